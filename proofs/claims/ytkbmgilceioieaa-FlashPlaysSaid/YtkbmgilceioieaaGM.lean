/- FlashPlays' walk. -/
import Derived.Test.YtkbmgilceioieaaGL
import Derived.Deep.Cut
import Derived.Deep.CutRange
namespace Go.Proofs.Ytkbmgilceioieaa
open Go.RowKit

theorem PlayAt.start2 {w0 wX w1 w2 : World} {q S : Nat} {g : Nat → Nat} {bL bW cL cW : Nat} {D : Dev} {lx : List Value} (hnn : D.nn = D) (hbX : Below w0.heap.size w0 wX) (hx : BoxAt wX w0.heap.size lx)
    (hr : RefIn w1 bL bW D) (h1 : wX.heap.size ≤ bL) (h2 : wX.heap.size ≤ bW) (hb1 : Below wX.heap.size wX w1) (c : Array Value) (t : TypeId) (hc : c.toList = lX bL cL bW cW D)
    (hd : DevAt w2 q S g D) (hq : ∀ j, OwnD q S g D.ns j → (w1.alloc (.cells c t)).heap.size ≤ j) (hb2 : Below (w1.alloc (.cells c t)).heap.size (w1.alloc (.cells c t)) w2) :
    PlayAt w0 w2 q S g w1.heap.size bL cL bW cW D lx := by
  have hn := (Below.refl w1.heap.size w1).alloc (Nat.le_refl _) (.cells c t)
  have hsz : (w1.alloc (.cells c t)).heap.size = w1.heap.size + 1 := World.size_alloc ..
  have l1 := hr.ltL
  have l2 := hr.ltW
  have sz := hb1.size
  have l0 := hx.lt
  have hbN := BoxAt.mk_new w1 c t
  rw [hc] at hbN
  refine ⟨hd, by rw [hnn]; exact (hr.new hn).new hb2, by rw [hnn]; exact hbN.new hb2, ((hx.new hb1).new hn).new hb2, fun j hj => by have := hq j hj; omega, ⟨fun e => by have := hq _ e; omega, fun e => by have := hq _ e; omega, fun e => by have := hq _ e; omega, by omega, by omega, by omega, by omega, by omega⟩, ?_⟩
  exact ((hbX.trans (hb1.mono (by omega))).trans (hn.mono (by omega))).trans (hb2.mono (by omega))

set_option maxRecDepth 100000 in
set_option maxHeartbeats 4000000 in
theorem fplays_in (ns nw : Nat) (x3 : Int) (sp : Option Addr) (b off cap : Nat) (O : List FOp) (w : World) (h1 : O.length ≤ 60) (hk : okSize ns nw x3) (hm : ns * nw ≤ 400) (hsp : 0 < O.length → sp = some ⟨b, off, none⟩) (hO : OpsAt w b off O) :
    Calls Try.prog 3 #[.agg #[.int .i64 ns, .int .i64 nw, .int .i64 x3], .slice sp O.length cap] w fun e w' => e = .returned (.bool true) ∧ Below w.heap.size w w' := by
  obtain ⟨n, hn⟩ : ∃ n, O.length = n := ⟨_, rfl⟩
  obtain ⟨M, hM⟩ : ∃ M, ns * nw = M := ⟨_, rfl⟩
  have hk2 := hk
  unfold okSize at hk2
  have hn5 : nw ≤ 500 := by
    have : 1 * nw ≤ ns * nw := Nat.mul_le_mul_right _ (by omega)
    omega
  have HST := Lib.hid (show ∀ k, k ≤ n → GoodF (Dev.fresh ns nw x3) (stF (Dev.fresh ns nw x3) O k) k ∧ (stF (Dev.fresh ns nw x3) O k).okE from by
    rw [← hn]; exact good_st (fresh_ok ns nw x3 (by omega)) rfl hO.ok h1)
  obtain ⟨D0, hD0⟩ : ∃ D0, Dev.fresh ns nw x3 = D0 := ⟨_, rfl⟩
  have HX := Lib.hid (BoxAt.mk_new w #[.int .i64 ns, .int .i64 nw, .int .i64 x3] 23)
  have HXB := Lib.hid (show Below w.heap.size w _ from (Below.refl _ w).alloc (Nat.le_refl _) (.cells #[.int .i64 ns, .int .i64 nw, .int .i64 x3] 23))
  have HO := Lib.hid (fun (w2 : World) (c : Below w.heap.size w w2) => hO.below c)
  have HSP := Lib.hid (And.intro hsp (And.intro hk2 (And.intro hn5 hM)))
  have hg1 : ¬ (60 : Int) < (n : Int) := by omega
  have hM4 : ¬ (400 : Int) < (M : Int) := by omega
  have HF := Lib.hid (show ∀ w1, Calls Try.prog 12 #[.int .i64 ns, .int .i64 nw, .int .i64 x3] w1 fun e w' => ∃ q S g, e = .returned (.tuple #[.pointer (some ⟨q, 0, none⟩), .int .i64 0]) ∧ DevAt w' q S g D0 ∧ (∀ j, OwnD q S g ns j → w1.heap.size ≤ j) ∧ Below w1.heap.size w1 w' from fun w1 => by rw [← hD0]; exact new_ok ns nw x3 w1 hk)
  have HR := Lib.hid (show ∀ w1, Calls Try.prog 11 #[.int .i64 ns, .int .i64 nw, .int .i64 x3] w1 fun e w' => ∃ bL cL bW cW, e = .returned (.tuple #[.agg #[.int .i64 ns, .int .i64 nw, .int .i64 x3, .slice (some ⟨bL, 0, none⟩) M cL, .slice (some ⟨bW, 0, none⟩) ns cW, .bool false, .bool false, .int .i64 0, .int .u32 0, .int .i64 0], .int .i64 0]) ∧ RefIn w' bL bW D0 ∧ w1.heap.size ≤ bL ∧ w1.heap.size ≤ bW ∧ Below w1.heap.size w1 w' from fun w1 => by rw [← hM, ← hD0]; exact newR_ok ns nw x3 w1 hk)
  have HCC := Lib.hid (show ∀ bL cL bW cW, (#[.int .i64 ns, .int .i64 nw, .int .i64 x3, .slice (some ⟨bL, 0, none⟩) M cL, .slice (some ⟨bW, 0, none⟩) ns cW, .bool false, .bool false, .int .i64 0, .int .u32 0, .int .i64 0] : Array Value).toList = lX bL cL bW cW D0 from fun bL cL bW cW => by rw [← hD0, ← hM]; rfl)
  have HD0 := Lib.hid (show D0.nn = D0 ∧ D0.ns = ns ∧ D0.nw = nw ∧ D0.limit = x3 by rw [← hD0]; exact ⟨rfl, rfl, rfl, rfl⟩)
  have HN := Lib.hid hn
  rw [hn]
  rw [hD0] at HST
  clear hn hD0 h1 hk hm hsp hO hk2 hn5 hM
  go_enter Try.func3, Try.ntmps3
  go_upto_region 9 with (first
    | (go_at_call 11; go_must (
        refine (HR.out _).mono ?_
        rintro e w1 ⟨bL, cL, bW, cW, rfl, hr, hL, hW, hb⟩
        have hx1 := (HX.out.new hb).alloc (.cells #[.int .i64 ns, .int .i64 nw, .int .i64 x3, .slice (some ⟨bL, 0, none⟩) M cL, .slice (some ⟨bW, 0, none⟩) ns cW, .bool false, .bool false, .int .i64 0, .int .u32 0, .int .i64 0] 29)
        have H1 := Lib.hid (And.intro hr (And.intro hL (And.intro hW hb)))
        have c0 := hx1.cell 0 _ rfl; have c1 := hx1.cell 1 _ rfl; have c2 := hx1.cell 2 _ rfl
        clear hr hL hW hb hx1))
    | (go_at_call 12; go_must (
        refine (HF.out _).mono ?_
        rintro e w2 ⟨q, S, g, rfl, hd, hq, hb2⟩
        have H2 := Lib.hid (PlayAt.start2 HD0.out.1 HXB.out HX.out H1.out.1 H1.out.2.1 H1.out.2.2.1 H1.out.2.2.2 _ 29 (HCC.out bL cL bW cW) hd (fun j hj => hq j (by rw [← HD0.out.2.1]; exact hj)) hb2)
        clear hd hq hb2 c0 c1 c2))
    | fail)
  have hP0 := H2.out
  generalize w1.heap.size = N at hP0 ⊢
  have HP0 := Lib.hid hP0
  clear hP0 H1 H2 HF HR HX HXB HCC
  go_wp2
  go_loopg [9, 10, 11, 12, 13, 14] n (fun gg v9 v10 v11 v12 v13 v14 wr => ∃ k : Nat, k + gg = n ∧ v10 = .int .i64 k ∧ Aside (∃ bL cL bW cW, PlayAt w wr q S g N bL cL bW cW (stF D0 O k) [.int .i64 ns, .int .i64 nw, .int .i64 x3]))
  case atStart => exact ⟨0, by omega, rfl, bL, cL, bW, cW, HP0.out⟩
  case round =>
    clear HP0
    obtain ⟨k, hkg, rfl, HR⟩ := hrel
    obtain ⟨bL, cL, bW, cW, hP⟩ := HR.out
    cases gk with
    | zero =>
      obtain rfl : k = n := by omega
      obtain ⟨gE, -⟩ := HST.out k (Nat.le_refl _)
      obtain ⟨DE, hDE⟩ : ∃ DE, stF D0 O k = DE := ⟨_, rfl⟩
      rw [hDE] at gE hP
      have hn0 := HD0.out
      have ens : DE.ns = ns := gE.ns.trans hn0.2.1
      have enw : DE.nw = nw := gE.nw.trans hn0.2.2.1
      have elm : DE.limit = x3 := gE.lim.trans hn0.2.2.2
      have HP := Lib.hid hP
      have x0c := hP.xb.cell 0 _ rfl
      have x1c := hP.xb.cell 1 _ rfl
      have x2c := hP.xb.cell 2 _ rfl
      have HSE := Lib.hid (fun wz (hz : DevAt wz q S g DE) => sectors_any hz)
      have HWD := Lib.hid (fun wz (hz : DevAt wz q S g DE) => words_any hz)
      have HLM := Lib.hid (fun wz (hz : DevAt wz q S g DE) => limit_any hz)
      rw [ens] at HSE
      rw [enw] at HWD
      rw [elm] at HLM
      have h1n : DE.has (-1) = false := by unfold Dev.has; simp
      have h2n : DE.has (ns : Int) = false := by unfold Dev.has; rw [ens]; simp
      have HS1 := Lib.hid (show ∀ wz, DevAt wz q S g DE → Calls Try.prog 21 #[.pointer (some ⟨q, 0, none⟩), .int .i64 (-1)] wz fun e w' => ∃ v, e = .returned v ∧ v = .slice none 0 0 ∧ Below wz.heap.size wz w' from fun wz hz => by have := sector_any hz (-1); rw [h1n] at this; exact this)
      have HS2 := Lib.hid (show ∀ wz, DevAt wz q S g DE → Calls Try.prog 21 #[.pointer (some ⟨q, 0, none⟩), .int .i64 ns] wz fun e w' => ∃ v, e = .returned v ∧ v = .slice none 0 0 ∧ Below wz.heap.size wz w' from fun wz hz => by have := sector_any hz (ns : Int); rw [h2n] at this; exact this)
      have HW1 := Lib.hid (show ∀ wz, DevAt wz q S g DE → Calls Try.prog 22 #[.pointer (some ⟨q, 0, none⟩), .int .i64 (-1)] wz fun e w' => e = .returned (.int .i64 0) ∧ wz = w' from fun wz hz => by have := worn_any hz (-1); unfold Dev.wornS at this; rw [h1n] at this; exact this)
      have HW2 := Lib.hid (show ∀ wz, DevAt wz q S g DE → Calls Try.prog 22 #[.pointer (some ⟨q, 0, none⟩), .int .i64 ns] wz fun e w' => e = .returned (.int .i64 0) ∧ wz = w' from fun wz hz => by have := worn_any hz (ns : Int); unfold Dev.wornS at this; rw [h2n] at this; exact this)
      clear gE hDE hn0 ens enw elm hP HR h1n h2n
      go_upto_region 18 with fail
      refine wp_region_held_drew (S := fun w' => w'.cell? ⟨w.heap.size, 0, none⟩ = some (.int .i64 ns) ∧ w'.cell? ⟨w.heap.size, 1, none⟩ = some (.int .i64 nw) ∧ w'.cell? ⟨w.heap.size, 2, none⟩ = some (.int .i64 x3)) (by kernel_rfl) ⟨x0c, x1c, x2c⟩ (fun hS => ?_)
      refine wpAnyH_take (i := 0) (oi := { dst := some 134, op := .move (.tmp 7), type := 32, pos := "law.go:91", after := #[], guard := none }) (v := ?_) rfl (by kernel_rfl) (by kernel_rfl) (by kernel_rfl) (fun _ _ _ h => h) (Or.inl ⟨by rfl, ?_⟩) hS ?_
      rotate_left 1
      · intro w hw; obtain ⟨s0, s1, s2⟩ := hw; go_simp; try (with_reducible rfl)
      simp only [Act.put, List.setIfInBounds_toArray, List.set_cons_zero, List.set_cons_succ]
      refine wpAnyH_take (i := 2) (oi := { dst := some 136, op := .fieldAddr 23 (.tmp 2) 0, type := 0, pos := "law.go:91", after := #[], guard := none }) (v := ?_) rfl (by kernel_rfl) (by kernel_rfl) (by kernel_rfl) (fun _ _ _ h => h) (Or.inl ⟨by rfl, ?_⟩) hS ?_
      rotate_left 1
      · intro w hw; obtain ⟨s0, s1, s2⟩ := hw; go_simp; try (with_reducible rfl)
      simp only [Act.put, List.setIfInBounds_toArray, List.set_cons_zero, List.set_cons_succ]
      refine wpAnyH_take (i := 3) (oi := { dst := some 137, op := .load 3 (.tmp 136), type := 3, pos := "law.go:91", after := #[{ on := 2, ground := .data }], guard := none }) (v := ?_) rfl (by kernel_rfl) (by kernel_rfl) (by kernel_rfl) (fun _ _ _ h => h) (Or.inl ⟨by rfl, ?_⟩) hS ?_
      rotate_left 1
      · intro w hw; obtain ⟨s0, s1, s2⟩ := hw; go_simp; try (with_reducible rfl)
      simp only [Act.put, List.setIfInBounds_toArray, List.set_cons_zero, List.set_cons_succ]
      refine wpAnyH_ready (rs := [1]) (by kernel_rfl) (by simp) (AllReadyH.cons (o := { dst := some 135, op := .call { callee := .value (.func 18), args := #[.tmp 134], argTypes := #[32] }, type := 3, pos := "law.go:91", after := #[{ on := 0, ground := .data }], guard := none }) rfl (fun K hK => ?_) AllReadyH.nil)
      go_simp
      refine (HSE.out _ (HP.out.dev.drewN 1)).mono ?_
      rintro e wz1 ⟨rfl, rfl⟩
      try dsimp only
      refine hK.out _ _ hS (fun hHeld => ?_)
      clear hK K
      try simp only [Act.put, List.setIfInBounds_toArray, List.set_cons_zero, List.set_cons_succ]
      refine wpAnyH_take (i := 4) (oi := { dst := some 138, op := .binOp .eql 3 (.tmp 135) (.tmp 137) 3, type := 4, pos := "law.go:91", after := #[{ on := 1, ground := .data }, { on := 3, ground := .data }], guard := none }) (v := ?_) rfl (by kernel_rfl) (by kernel_rfl) (by kernel_rfl) (fun _ _ _ h => h) (Or.inl ⟨by rfl, ?_⟩) hS ?_
      rotate_left 1
      · intro w hw; obtain ⟨s0, s1, s2⟩ := hw; go_simp; try (with_reducible rfl)
      simp only [Act.put, List.setIfInBounds_toArray, List.set_cons_zero, List.set_cons_succ]
      refine wpAnyH_take (i := 5) (oi := { dst := some 139, op := .move (.tmp 138), type := 4, pos := "law.go:91", after := #[{ on := 4, ground := .data }, { on := 1, ground := .chain }], guard := none }) (v := ?_) rfl (by kernel_rfl) (by kernel_rfl) (by kernel_rfl) (fun _ _ _ h => h) (Or.inl ⟨by rfl, ?_⟩) hS ?_
      rotate_left 1
      · intro w hw; obtain ⟨s0, s1, s2⟩ := hw; go_simp; try (with_reducible rfl)
      simp only [Act.put, List.setIfInBounds_toArray, List.set_cons_zero, List.set_cons_succ]
      refine wpAnyH_take (i := 6) (oi := { dst := some 140, op := .move (.tmp 7), type := 32, pos := "law.go:91", after := #[{ on := 5, ground := .guard }], guard := some (5, true) }) (v := ?_) rfl (by kernel_rfl) (by kernel_rfl) (by kernel_rfl) (fun _ _ _ h => h) (Or.inl ⟨by rfl, ?_⟩) hS ?_
      rotate_left 1
      · intro w hw; obtain ⟨s0, s1, s2⟩ := hw; go_simp; try (with_reducible rfl)
      simp only [Act.put, List.setIfInBounds_toArray, List.set_cons_zero, List.set_cons_succ]
      refine wpAnyH_take (i := 8) (oi := { dst := some 142, op := .fieldAddr 23 (.tmp 2) 1, type := 0, pos := "law.go:91", after := #[{ on := 5, ground := .guard }], guard := some (5, true) }) (v := ?_) rfl (by kernel_rfl) (by kernel_rfl) (by kernel_rfl) (fun _ _ _ h => h) (Or.inl ⟨by rfl, ?_⟩) hS ?_
      rotate_left 1
      · intro w hw; obtain ⟨s0, s1, s2⟩ := hw; go_simp; try (with_reducible rfl)
      simp only [Act.put, List.setIfInBounds_toArray, List.set_cons_zero, List.set_cons_succ]
      refine wpAnyH_take (i := 9) (oi := { dst := some 143, op := .load 3 (.tmp 142), type := 3, pos := "law.go:91", after := #[{ on := 8, ground := .data }, { on := 5, ground := .guard }], guard := some (5, true) }) (v := ?_) rfl (by kernel_rfl) (by kernel_rfl) (by kernel_rfl) (fun _ _ _ h => h) (Or.inl ⟨by rfl, ?_⟩) hS ?_
      rotate_left 1
      · intro w hw; obtain ⟨s0, s1, s2⟩ := hw; go_simp; try (with_reducible rfl)
      simp only [Act.put, List.setIfInBounds_toArray, List.set_cons_zero, List.set_cons_succ]
      refine wpAnyH_ready (rs := [7]) (by kernel_rfl) (by simp) (AllReadyH.cons (o := { dst := some 141, op := .call { callee := .value (.func 19), args := #[.tmp 140], argTypes := #[32] }, type := 3, pos := "law.go:91", after := #[{ on := 6, ground := .data }, { on := 5, ground := .chain }, { on := 5, ground := .guard }], guard := some (5, true) }) rfl (fun K hK => ?_) AllReadyH.nil)
      go_simp
      refine (HWD.out _ (HP.out.dev.drewN 1)).mono ?_
      rintro e wz2 ⟨rfl, rfl⟩
      try dsimp only
      refine hK.out _ _ hS (fun hHeld => ?_)
      clear hK K
      try simp only [Act.put, List.setIfInBounds_toArray, List.set_cons_zero, List.set_cons_succ]
      refine wpAnyH_take (i := 10) (oi := { dst := some 144, op := .binOp .eql 3 (.tmp 141) (.tmp 143) 3, type := 4, pos := "law.go:91", after := #[{ on := 7, ground := .data }, { on := 9, ground := .data }, { on := 5, ground := .guard }], guard := some (5, true) }) (v := ?_) rfl (by kernel_rfl) (by kernel_rfl) (by kernel_rfl) (fun _ _ _ h => h) (Or.inl ⟨by rfl, ?_⟩) hS ?_
      rotate_left 1
      · intro w hw; obtain ⟨s0, s1, s2⟩ := hw; go_simp; try (with_reducible rfl)
      simp only [Act.put, List.setIfInBounds_toArray, List.set_cons_zero, List.set_cons_succ]
      refine wpAnyH_take (i := 11) (oi := { dst := some 145, op := .pick (.tmp 139) (.tmp 144) (.const (.bool false)), type := 4, pos := "law.go:91", after := #[{ on := 5, ground := .data }, { on := 10, ground := .data }], guard := none }) (v := ?_) rfl (by kernel_rfl) (by kernel_rfl) (by kernel_rfl) (fun _ _ _ h => h) (Or.inl ⟨by rfl, ?_⟩) hS ?_
      rotate_left 1
      · intro w hw; obtain ⟨s0, s1, s2⟩ := hw; go_simp; try (with_reducible rfl)
      simp only [Act.put, List.setIfInBounds_toArray, List.set_cons_zero, List.set_cons_succ]
      refine wpAnyH_take (i := 12) (oi := { dst := some 146, op := .move (.tmp 145), type := 4, pos := "law.go:91", after := #[{ on := 11, ground := .data }, { on := 7, ground := .chain }], guard := none }) (v := ?_) rfl (by kernel_rfl) (by kernel_rfl) (by kernel_rfl) (fun _ _ _ h => h) (Or.inl ⟨by rfl, ?_⟩) hS ?_
      rotate_left 1
      · intro w hw; obtain ⟨s0, s1, s2⟩ := hw; go_simp; try (with_reducible rfl)
      simp only [Act.put, List.setIfInBounds_toArray, List.set_cons_zero, List.set_cons_succ]
      refine wpAnyH_take (i := 13) (oi := { dst := some 147, op := .move (.tmp 7), type := 32, pos := "law.go:91", after := #[{ on := 12, ground := .guard }], guard := some (12, true) }) (v := ?_) rfl (by kernel_rfl) (by kernel_rfl) (by kernel_rfl) (fun _ _ _ h => h) (Or.inl ⟨by rfl, ?_⟩) hS ?_
      rotate_left 1
      · intro w hw; obtain ⟨s0, s1, s2⟩ := hw; go_simp; try (with_reducible rfl)
      simp only [Act.put, List.setIfInBounds_toArray, List.set_cons_zero, List.set_cons_succ]
      refine wpAnyH_take (i := 15) (oi := { dst := some 149, op := .fieldAddr 23 (.tmp 2) 2, type := 0, pos := "law.go:91", after := #[{ on := 12, ground := .guard }], guard := some (12, true) }) (v := ?_) rfl (by kernel_rfl) (by kernel_rfl) (by kernel_rfl) (fun _ _ _ h => h) (Or.inl ⟨by rfl, ?_⟩) hS ?_
      rotate_left 1
      · intro w hw; obtain ⟨s0, s1, s2⟩ := hw; go_simp; try (with_reducible rfl)
      simp only [Act.put, List.setIfInBounds_toArray, List.set_cons_zero, List.set_cons_succ]
      refine wpAnyH_take (i := 16) (oi := { dst := some 150, op := .load 3 (.tmp 149), type := 3, pos := "law.go:91", after := #[{ on := 15, ground := .data }, { on := 12, ground := .guard }], guard := some (12, true) }) (v := ?_) rfl (by kernel_rfl) (by kernel_rfl) (by kernel_rfl) (fun _ _ _ h => h) (Or.inl ⟨by rfl, ?_⟩) hS ?_
      rotate_left 1
      · intro w hw; obtain ⟨s0, s1, s2⟩ := hw; go_simp; try (with_reducible rfl)
      simp only [Act.put, List.setIfInBounds_toArray, List.set_cons_zero, List.set_cons_succ]
      refine wpAnyH_ready (rs := [14]) (by kernel_rfl) (by simp) (AllReadyH.cons (o := { dst := some 148, op := .call { callee := .value (.func 20), args := #[.tmp 147], argTypes := #[32] }, type := 3, pos := "law.go:91", after := #[{ on := 13, ground := .data }, { on := 12, ground := .chain }, { on := 12, ground := .guard }], guard := some (12, true) }) rfl (fun K hK => ?_) AllReadyH.nil)
      go_simp
      refine (HLM.out _ (HP.out.dev.drewN 1)).mono ?_
      rintro e wz3 ⟨rfl, rfl⟩
      try dsimp only
      refine hK.out _ _ hS (fun hHeld => ?_)
      clear hK K
      try simp only [Act.put, List.setIfInBounds_toArray, List.set_cons_zero, List.set_cons_succ]
      refine wpAnyH_take (i := 17) (oi := { dst := some 151, op := .binOp .eql 3 (.tmp 148) (.tmp 150) 3, type := 4, pos := "law.go:91", after := #[{ on := 14, ground := .data }, { on := 16, ground := .data }, { on := 12, ground := .guard }], guard := some (12, true) }) (v := ?_) rfl (by kernel_rfl) (by kernel_rfl) (by kernel_rfl) (fun _ _ _ h => h) (Or.inl ⟨by rfl, ?_⟩) hS ?_
      rotate_left 1
      · intro w hw; obtain ⟨s0, s1, s2⟩ := hw; go_simp; try (with_reducible rfl)
      simp only [Act.put, List.setIfInBounds_toArray, List.set_cons_zero, List.set_cons_succ]
      refine wpAnyH_take (i := 18) (oi := { dst := some 152, op := .pick (.tmp 146) (.tmp 151) (.const (.bool false)), type := 4, pos := "law.go:91", after := #[{ on := 12, ground := .data }, { on := 17, ground := .data }], guard := none }) (v := ?_) rfl (by kernel_rfl) (by kernel_rfl) (by kernel_rfl) (fun _ _ _ h => h) (Or.inl ⟨by rfl, ?_⟩) hS ?_
      rotate_left 1
      · intro w hw; obtain ⟨s0, s1, s2⟩ := hw; go_simp; try (with_reducible rfl)
      simp only [Act.put, List.setIfInBounds_toArray, List.set_cons_zero, List.set_cons_succ]
      refine wpAnyH_take (i := 19) (oi := { dst := some 153, op := .move (.tmp 152), type := 4, pos := "law.go:91", after := #[{ on := 18, ground := .data }, { on := 14, ground := .chain }], guard := none }) (v := ?_) rfl (by kernel_rfl) (by kernel_rfl) (by kernel_rfl) (fun _ _ _ h => h) (Or.inl ⟨by rfl, ?_⟩) hS ?_
      rotate_left 1
      · intro w hw; obtain ⟨s0, s1, s2⟩ := hw; go_simp; try (with_reducible rfl)
      simp only [Act.put, List.setIfInBounds_toArray, List.set_cons_zero, List.set_cons_succ]
      refine wpAnyH_take (i := 20) (oi := { dst := some 154, op := .move (.tmp 7), type := 32, pos := "law.go:91", after := #[{ on := 19, ground := .guard }], guard := some (19, true) }) (v := ?_) rfl (by kernel_rfl) (by kernel_rfl) (by kernel_rfl) (fun _ _ _ h => h) (Or.inl ⟨by rfl, ?_⟩) hS ?_
      rotate_left 1
      · intro w hw; obtain ⟨s0, s1, s2⟩ := hw; go_simp; try (with_reducible rfl)
      simp only [Act.put, List.setIfInBounds_toArray, List.set_cons_zero, List.set_cons_succ]
      refine wpAnyH_ready (rs := [21]) (by kernel_rfl) (by simp) (AllReadyH.cons (o := { dst := some 155, op := .call { callee := .value (.func 21), args := #[.tmp 154, .const (.int .i64 (-1))], argTypes := #[32, 3] }, type := 25, pos := "law.go:91", after := #[{ on := 20, ground := .data }, { on := 19, ground := .chain }, { on := 19, ground := .guard }], guard := some (19, true) }) rfl (fun K hK => ?_) AllReadyH.nil)
      go_simp
      refine (HS1.out _ (HP.out.dev.drewN 1)).mono ?_
      rintro e w5 ⟨v5, rfl, rfl, hb5⟩
      have HPa := Lib.hid (HP.out.new ((below_dn (Below.refl _ wr) 1).trans hb5))
      have hS5 := And.intro (HPa.out.xb.cell 0 _ rfl) (And.intro (HPa.out.xb.cell 1 _ rfl) (HPa.out.xb.cell 2 _ rfl))
      clear hb5
      try dsimp only
      refine hK.out _ _ hS5 (fun hHeld => ?_)
      clear hK K
      try simp only [Act.put, List.setIfInBounds_toArray, List.set_cons_zero, List.set_cons_succ]
      refine wpAnyH_take (i := 22) (oi := { dst := some 156, op := .call { callee := .builtin .len, args := #[.tmp 155], argTypes := #[25] }, type := 3, pos := "law.go:91", after := #[{ on := 21, ground := .data }, { on := 19, ground := .guard }], guard := some (19, true) }) (v := ?_) rfl (by kernel_rfl) (by kernel_rfl) (by kernel_rfl) (fun _ _ _ h => h) (Or.inl ⟨by rfl, ?_⟩) hS5 ?_
      rotate_left 1
      · intro w hw; obtain ⟨s0, s1, s2⟩ := hw; go_simp; try (with_reducible rfl)
      simp only [Act.put, List.setIfInBounds_toArray, List.set_cons_zero, List.set_cons_succ]
      refine wpAnyH_take (i := 23) (oi := { dst := some 157, op := .binOp .eql 3 (.tmp 156) (.const (.int .i64 0)) 3, type := 4, pos := "law.go:91", after := #[{ on := 22, ground := .data }, { on := 19, ground := .guard }], guard := some (19, true) }) (v := ?_) rfl (by kernel_rfl) (by kernel_rfl) (by kernel_rfl) (fun _ _ _ h => h) (Or.inl ⟨by rfl, ?_⟩) hS5 ?_
      rotate_left 1
      · intro w hw; obtain ⟨s0, s1, s2⟩ := hw; go_simp; try (with_reducible rfl)
      simp only [Act.put, List.setIfInBounds_toArray, List.set_cons_zero, List.set_cons_succ]
      refine wpAnyH_take (i := 24) (oi := { dst := some 158, op := .pick (.tmp 153) (.tmp 157) (.const (.bool false)), type := 4, pos := "law.go:91", after := #[{ on := 19, ground := .data }, { on := 23, ground := .data }], guard := none }) (v := ?_) rfl (by kernel_rfl) (by kernel_rfl) (by kernel_rfl) (fun _ _ _ h => h) (Or.inl ⟨by rfl, ?_⟩) hS5 ?_
      rotate_left 1
      · intro w hw; obtain ⟨s0, s1, s2⟩ := hw; go_simp; try (with_reducible rfl)
      simp only [Act.put, List.setIfInBounds_toArray, List.set_cons_zero, List.set_cons_succ]
      refine wpAnyH_take (i := 25) (oi := { dst := some 159, op := .move (.tmp 158), type := 4, pos := "law.go:91", after := #[{ on := 24, ground := .data }, { on := 21, ground := .chain }], guard := none }) (v := ?_) rfl (by kernel_rfl) (by kernel_rfl) (by kernel_rfl) (fun _ _ _ h => h) (Or.inl ⟨by rfl, ?_⟩) hS5 ?_
      rotate_left 1
      · intro w hw; obtain ⟨s0, s1, s2⟩ := hw; go_simp; try (with_reducible rfl)
      simp only [Act.put, List.setIfInBounds_toArray, List.set_cons_zero, List.set_cons_succ]
      refine wpAnyH_take (i := 26) (oi := { dst := some 160, op := .move (.tmp 7), type := 32, pos := "law.go:91", after := #[{ on := 25, ground := .guard }], guard := some (25, true) }) (v := ?_) rfl (by kernel_rfl) (by kernel_rfl) (by kernel_rfl) (fun _ _ _ h => h) (Or.inl ⟨by rfl, ?_⟩) hS5 ?_
      rotate_left 1
      · intro w hw; obtain ⟨s0, s1, s2⟩ := hw; go_simp; try (with_reducible rfl)
      simp only [Act.put, List.setIfInBounds_toArray, List.set_cons_zero, List.set_cons_succ]
      refine wpAnyH_take (i := 27) (oi := { dst := some 161, op := .fieldAddr 23 (.tmp 2) 0, type := 0, pos := "law.go:91", after := #[{ on := 25, ground := .guard }], guard := some (25, true) }) (v := ?_) rfl (by kernel_rfl) (by kernel_rfl) (by kernel_rfl) (fun _ _ _ h => h) (Or.inl ⟨by rfl, ?_⟩) hS5 ?_
      rotate_left 1
      · intro w hw; obtain ⟨s0, s1, s2⟩ := hw; go_simp; try (with_reducible rfl)
      simp only [Act.put, List.setIfInBounds_toArray, List.set_cons_zero, List.set_cons_succ]
      refine wpAnyH_take (i := 28) (oi := { dst := some 162, op := .load 3 (.tmp 161), type := 3, pos := "law.go:91", after := #[{ on := 27, ground := .data }, { on := 25, ground := .guard }], guard := some (25, true) }) (v := ?_) rfl (by kernel_rfl) (by kernel_rfl) (by kernel_rfl) (fun _ _ _ h => h) (Or.inl ⟨by rfl, ?_⟩) hS5 ?_
      rotate_left 1
      · intro w hw; obtain ⟨s0, s1, s2⟩ := hw; go_simp; try (with_reducible rfl)
      simp only [Act.put, List.setIfInBounds_toArray, List.set_cons_zero, List.set_cons_succ]
      refine wpAnyH_ready (rs := [29]) (by kernel_rfl) (by simp) (AllReadyH.cons (o := { dst := some 163, op := .call { callee := .value (.func 21), args := #[.tmp 160, .tmp 162], argTypes := #[32, 3] }, type := 25, pos := "law.go:91", after := #[{ on := 26, ground := .data }, { on := 28, ground := .data }, { on := 25, ground := .chain }, { on := 25, ground := .guard }], guard := some (25, true) }) rfl (fun K hK => ?_) AllReadyH.nil)
      go_simp
      refine (HS2.out _ HPa.out.dev).mono ?_
      rintro e w6 ⟨v6, rfl, rfl, hb6⟩
      have HPb := Lib.hid (HPa.out.new hb6)
      have hS6 := And.intro (HPb.out.xb.cell 0 _ rfl) (And.intro (HPb.out.xb.cell 1 _ rfl) (HPb.out.xb.cell 2 _ rfl))
      clear hb6
      try dsimp only
      refine hK.out _ _ hS6 (fun hHeld => ?_)
      clear hK K
      try simp only [Act.put, List.setIfInBounds_toArray, List.set_cons_zero, List.set_cons_succ]
      refine wpAnyH_take (i := 30) (oi := { dst := some 164, op := .call { callee := .builtin .len, args := #[.tmp 163], argTypes := #[25] }, type := 3, pos := "law.go:91", after := #[{ on := 29, ground := .data }, { on := 25, ground := .guard }], guard := some (25, true) }) (v := ?_) rfl (by kernel_rfl) (by kernel_rfl) (by kernel_rfl) (fun _ _ _ h => h) (Or.inl ⟨by rfl, ?_⟩) hS6 ?_
      rotate_left 1
      · intro w hw; obtain ⟨s0, s1, s2⟩ := hw; go_simp; try (with_reducible rfl)
      simp only [Act.put, List.setIfInBounds_toArray, List.set_cons_zero, List.set_cons_succ]
      refine wpAnyH_take (i := 31) (oi := { dst := some 165, op := .binOp .eql 3 (.tmp 164) (.const (.int .i64 0)) 3, type := 4, pos := "law.go:91", after := #[{ on := 30, ground := .data }, { on := 25, ground := .guard }], guard := some (25, true) }) (v := ?_) rfl (by kernel_rfl) (by kernel_rfl) (by kernel_rfl) (fun _ _ _ h => h) (Or.inl ⟨by rfl, ?_⟩) hS6 ?_
      rotate_left 1
      · intro w hw; obtain ⟨s0, s1, s2⟩ := hw; go_simp; try (with_reducible rfl)
      simp only [Act.put, List.setIfInBounds_toArray, List.set_cons_zero, List.set_cons_succ]
      refine wpAnyH_take (i := 32) (oi := { dst := some 166, op := .pick (.tmp 159) (.tmp 165) (.const (.bool false)), type := 4, pos := "law.go:91", after := #[{ on := 25, ground := .data }, { on := 31, ground := .data }], guard := none }) (v := ?_) rfl (by kernel_rfl) (by kernel_rfl) (by kernel_rfl) (fun _ _ _ h => h) (Or.inl ⟨by rfl, ?_⟩) hS6 ?_
      rotate_left 1
      · intro w hw; obtain ⟨s0, s1, s2⟩ := hw; go_simp; try (with_reducible rfl)
      simp only [Act.put, List.setIfInBounds_toArray, List.set_cons_zero, List.set_cons_succ]
      refine wpAnyH_take (i := 33) (oi := { dst := some 167, op := .move (.tmp 166), type := 4, pos := "law.go:91", after := #[{ on := 32, ground := .data }, { on := 29, ground := .chain }], guard := none }) (v := ?_) rfl (by kernel_rfl) (by kernel_rfl) (by kernel_rfl) (fun _ _ _ h => h) (Or.inl ⟨by rfl, ?_⟩) hS6 ?_
      rotate_left 1
      · intro w hw; obtain ⟨s0, s1, s2⟩ := hw; go_simp; try (with_reducible rfl)
      simp only [Act.put, List.setIfInBounds_toArray, List.set_cons_zero, List.set_cons_succ]
      refine wpAnyH_take (i := 34) (oi := { dst := some 168, op := .move (.tmp 7), type := 32, pos := "law.go:91", after := #[{ on := 33, ground := .guard }], guard := some (33, true) }) (v := ?_) rfl (by kernel_rfl) (by kernel_rfl) (by kernel_rfl) (fun _ _ _ h => h) (Or.inl ⟨by rfl, ?_⟩) hS6 ?_
      rotate_left 1
      · intro w hw; obtain ⟨s0, s1, s2⟩ := hw; go_simp; try (with_reducible rfl)
      simp only [Act.put, List.setIfInBounds_toArray, List.set_cons_zero, List.set_cons_succ]
      refine wpAnyH_ready (rs := [35]) (by kernel_rfl) (by simp) (AllReadyH.cons (o := { dst := some 169, op := .call { callee := .value (.func 22), args := #[.tmp 168, .const (.int .i64 (-1))], argTypes := #[32, 3] }, type := 3, pos := "law.go:91", after := #[{ on := 34, ground := .data }, { on := 33, ground := .chain }, { on := 33, ground := .guard }], guard := some (33, true) }) rfl (fun K hK => ?_) AllReadyH.nil)
      go_simp
      refine (HW1.out _ HPb.out.dev).mono ?_
      rintro e wz4 ⟨rfl, rfl⟩
      try dsimp only
      refine hK.out _ _ hS6 (fun hHeld => ?_)
      clear hK K
      try simp only [Act.put, List.setIfInBounds_toArray, List.set_cons_zero, List.set_cons_succ]
      refine wpAnyH_take (i := 36) (oi := { dst := some 170, op := .binOp .eql 3 (.tmp 169) (.const (.int .i64 0)) 3, type := 4, pos := "law.go:91", after := #[{ on := 35, ground := .data }, { on := 33, ground := .guard }], guard := some (33, true) }) (v := ?_) rfl (by kernel_rfl) (by kernel_rfl) (by kernel_rfl) (fun _ _ _ h => h) (Or.inl ⟨by rfl, ?_⟩) hS6 ?_
      rotate_left 1
      · intro w hw; obtain ⟨s0, s1, s2⟩ := hw; go_simp; try (with_reducible rfl)
      simp only [Act.put, List.setIfInBounds_toArray, List.set_cons_zero, List.set_cons_succ]
      refine wpAnyH_take (i := 37) (oi := { dst := some 171, op := .pick (.tmp 167) (.tmp 170) (.const (.bool false)), type := 4, pos := "law.go:91", after := #[{ on := 33, ground := .data }, { on := 36, ground := .data }], guard := none }) (v := ?_) rfl (by kernel_rfl) (by kernel_rfl) (by kernel_rfl) (fun _ _ _ h => h) (Or.inl ⟨by rfl, ?_⟩) hS6 ?_
      rotate_left 1
      · intro w hw; obtain ⟨s0, s1, s2⟩ := hw; go_simp; try (with_reducible rfl)
      simp only [Act.put, List.setIfInBounds_toArray, List.set_cons_zero, List.set_cons_succ]
      refine wpAnyH_take (i := 38) (oi := { dst := some 172, op := .move (.tmp 171), type := 4, pos := "law.go:91", after := #[{ on := 37, ground := .data }, { on := 35, ground := .chain }], guard := none }) (v := ?_) rfl (by kernel_rfl) (by kernel_rfl) (by kernel_rfl) (fun _ _ _ h => h) (Or.inl ⟨by rfl, ?_⟩) hS6 ?_
      rotate_left 1
      · intro w hw; obtain ⟨s0, s1, s2⟩ := hw; go_simp; try (with_reducible rfl)
      simp only [Act.put, List.setIfInBounds_toArray, List.set_cons_zero, List.set_cons_succ]
      refine wpAnyH_take (i := 39) (oi := { dst := some 173, op := .move (.tmp 7), type := 32, pos := "law.go:91", after := #[{ on := 38, ground := .guard }], guard := some (38, true) }) (v := ?_) rfl (by kernel_rfl) (by kernel_rfl) (by kernel_rfl) (fun _ _ _ h => h) (Or.inl ⟨by rfl, ?_⟩) hS6 ?_
      rotate_left 1
      · intro w hw; obtain ⟨s0, s1, s2⟩ := hw; go_simp; try (with_reducible rfl)
      simp only [Act.put, List.setIfInBounds_toArray, List.set_cons_zero, List.set_cons_succ]
      refine wpAnyH_take (i := 40) (oi := { dst := some 174, op := .fieldAddr 23 (.tmp 2) 0, type := 0, pos := "law.go:91", after := #[{ on := 38, ground := .guard }], guard := some (38, true) }) (v := ?_) rfl (by kernel_rfl) (by kernel_rfl) (by kernel_rfl) (fun _ _ _ h => h) (Or.inl ⟨by rfl, ?_⟩) hS6 ?_
      rotate_left 1
      · intro w hw; obtain ⟨s0, s1, s2⟩ := hw; go_simp; try (with_reducible rfl)
      simp only [Act.put, List.setIfInBounds_toArray, List.set_cons_zero, List.set_cons_succ]
      refine wpAnyH_take (i := 41) (oi := { dst := some 175, op := .load 3 (.tmp 174), type := 3, pos := "law.go:91", after := #[{ on := 40, ground := .data }, { on := 38, ground := .guard }], guard := some (38, true) }) (v := ?_) rfl (by kernel_rfl) (by kernel_rfl) (by kernel_rfl) (fun _ _ _ h => h) (Or.inl ⟨by rfl, ?_⟩) hS6 ?_
      rotate_left 1
      · intro w hw; obtain ⟨s0, s1, s2⟩ := hw; go_simp; try (with_reducible rfl)
      simp only [Act.put, List.setIfInBounds_toArray, List.set_cons_zero, List.set_cons_succ]
      refine wpAnyH_ready (rs := [42]) (by kernel_rfl) (by simp) (AllReadyH.cons (o := { dst := some 176, op := .call { callee := .value (.func 22), args := #[.tmp 173, .tmp 175], argTypes := #[32, 3] }, type := 3, pos := "law.go:91", after := #[{ on := 39, ground := .data }, { on := 41, ground := .data }, { on := 38, ground := .chain }, { on := 38, ground := .guard }], guard := some (38, true) }) rfl (fun K hK => ?_) AllReadyH.nil)
      go_simp
      refine (HW2.out _ HPb.out.dev).mono ?_
      rintro e wz5 ⟨rfl, rfl⟩
      try dsimp only
      refine hK.out _ _ hS6 (fun hHeld => ?_)
      clear hK K
      try simp only [Act.put, List.setIfInBounds_toArray, List.set_cons_zero, List.set_cons_succ]
      refine wpAnyH_take (i := 43) (oi := { dst := some 177, op := .binOp .eql 3 (.tmp 176) (.const (.int .i64 0)) 3, type := 4, pos := "law.go:91", after := #[{ on := 42, ground := .data }, { on := 38, ground := .guard }], guard := some (38, true) }) (v := ?_) rfl (by kernel_rfl) (by kernel_rfl) (by kernel_rfl) (fun _ _ _ h => h) (Or.inl ⟨by rfl, ?_⟩) hS6 ?_
      rotate_left 1
      · intro w hw; obtain ⟨s0, s1, s2⟩ := hw; go_simp; try (with_reducible rfl)
      simp only [Act.put, List.setIfInBounds_toArray, List.set_cons_zero, List.set_cons_succ]
      refine wpAnyH_take (i := 44) (oi := { dst := some 178, op := .pick (.tmp 172) (.tmp 177) (.const (.bool false)), type := 4, pos := "law.go:91", after := #[{ on := 38, ground := .data }, { on := 43, ground := .data }], guard := none }) (v := ?_) rfl (by kernel_rfl) (by kernel_rfl) (by kernel_rfl) (fun _ _ _ h => h) (Or.inl ⟨by rfl, ?_⟩) hS6 ?_
      rotate_left 1
      · intro w hw; obtain ⟨s0, s1, s2⟩ := hw; go_simp; try (with_reducible rfl)
      simp only [Act.put, List.setIfInBounds_toArray, List.set_cons_zero, List.set_cons_succ]
      refine wpAnyH_take (i := 45) (oi := { dst := some 179, op := .move (.tmp 178), type := 4, pos := "law.go:91", after := #[{ on := 44, ground := .data }, { on := 42, ground := .chain }], guard := none }) (v := ?_) rfl (by kernel_rfl) (by kernel_rfl) (by kernel_rfl) (fun _ _ _ h => h) (Or.inl ⟨by rfl, ?_⟩) hS6 ?_
      rotate_left 1
      · intro w hw; obtain ⟨s0, s1, s2⟩ := hw; go_simp; try (with_reducible rfl)
      simp only [Act.put, List.setIfInBounds_toArray, List.set_cons_zero, List.set_cons_succ]
      refine wpAnyH_ready (rs := [46]) (by kernel_rfl) (by simp) (AllReadyH.cons (o := { dst := some 180, op := .call { callee := .value (.func 13), args := #[], argTypes := #[] }, type := 4, pos := "law.go:91", after := #[{ on := 45, ground := .chain }, { on := 45, ground := .guard }], guard := some (45, true) }) rfl (fun K hK => ?_) AllReadyH.nil)
      go_simp
      refine (aliveF_any _).mono ?_
      rintro e w7 ⟨rfl, hb7⟩
      have HPc := Lib.hid (HPb.out.new hb7)
      have hS7 := And.intro (HPc.out.xb.cell 0 _ rfl) (And.intro (HPc.out.xb.cell 1 _ rfl) (HPc.out.xb.cell 2 _ rfl))
      clear hb7
      try dsimp only
      refine hK.out _ _ hS7 (fun hHeld => ?_)
      clear hK K
      try simp only [Act.put, List.setIfInBounds_toArray, List.set_cons_zero, List.set_cons_succ]
      refine wpAnyH_take (i := 47) (oi := { dst := some 181, op := .pick (.tmp 179) (.tmp 180) (.const (.bool false)), type := 4, pos := "law.go:91", after := #[{ on := 45, ground := .data }, { on := 46, ground := .data }], guard := none }) (v := ?_) rfl (by kernel_rfl) (by kernel_rfl) (by kernel_rfl) (fun _ _ _ h => h) (Or.inl ⟨by rfl, ?_⟩) hS7 ?_
      rotate_left 1
      · intro w hw; obtain ⟨s0, s1, s2⟩ := hw; go_simp; try (with_reducible rfl)
      simp only [Act.put, List.setIfInBounds_toArray, List.set_cons_zero, List.set_cons_succ]
      refine wpAnyH_ready (rs := [48]) (by kernel_rfl) (by simp) (AllReadyH.cons (o := { dst := some 4, op := .assign (.tmp 181), type := 4, pos := "law.go:91", after := #[{ on := 47, ground := .data }, { on := 46, ground := .chain }, { on := 0, ground := .phase }, { on := 1, ground := .phase }, { on := 2, ground := .phase }, { on := 3, ground := .phase }, { on := 4, ground := .phase }, { on := 5, ground := .phase }, { on := 6, ground := .phase }, { on := 7, ground := .phase }, { on := 8, ground := .phase }, { on := 9, ground := .phase }, { on := 10, ground := .phase }, { on := 11, ground := .phase }, { on := 12, ground := .phase }, { on := 13, ground := .phase }, { on := 14, ground := .phase }, { on := 15, ground := .phase }, { on := 16, ground := .phase }, { on := 17, ground := .phase }, { on := 18, ground := .phase }, { on := 19, ground := .phase }, { on := 20, ground := .phase }, { on := 21, ground := .phase }, { on := 22, ground := .phase }, { on := 23, ground := .phase }, { on := 24, ground := .phase }, { on := 25, ground := .phase }, { on := 26, ground := .phase }, { on := 27, ground := .phase }, { on := 28, ground := .phase }, { on := 29, ground := .phase }, { on := 30, ground := .phase }, { on := 31, ground := .phase }, { on := 32, ground := .phase }, { on := 33, ground := .phase }, { on := 34, ground := .phase }, { on := 35, ground := .phase }, { on := 36, ground := .phase }, { on := 37, ground := .phase }, { on := 38, ground := .phase }, { on := 39, ground := .phase }, { on := 40, ground := .phase }, { on := 41, ground := .phase }, { on := 42, ground := .phase }, { on := 43, ground := .phase }, { on := 44, ground := .phase }, { on := 45, ground := .phase }, { on := 46, ground := .phase }, { on := 47, ground := .phase }], guard := none }) rfl (fun K hK => ?_) AllReadyH.nil)
      go_simp
      refine hK.out _ _ hS7 (fun hHeld => ?_)
      clear hK K
      try simp only [Act.put, List.setIfInBounds_toArray, List.set_cons_zero, List.set_cons_succ]
      refine wpAnyH_done (by kernel_rfl) ?_ _
      go_wp2
      go_ret
      exact ⟨rfl, HPc.out.b⟩
    | succ g1 =>
      have hk : k < n := by omega
      obtain rfl : sp = some ⟨b, off, none⟩ := HSP.out.1 (by rw [HN.out]; omega)
      obtain ⟨gA, okA⟩ := HST.out k (by omega)
      have hDs : stF D0 O (k + 1) = (stF D0 O k).step (opF O k) := rfl
      obtain ⟨DA, hDA⟩ : ∃ DA, stF D0 O k = DA := ⟨_, rfl⟩
      rw [hDA] at gA okA hP hDs
      have hwr := (HO.out w (Below.refl _ _)).ok k (by rw [HN.out]; exact hk)
      have hn0 := HD0.out
      have hzz := HSP.out.2
      have HDK := Lib.hid (And.intro (show DA.kept (DA.step (opF O k)) from step_kept okA (opF O k) hwr) (And.intro hDs (And.intro okA (And.intro (show DA.nw ≤ 500 by rw [gA.nw, hn0.2.2.1]; exact hzz.2.1) (And.intro hwr (And.intro (show DA.ns = ns ∧ DA.nw = nw from ⟨gA.ns.trans hn0.2.1, gA.nw.trans hn0.2.2.1⟩) hzz))))))
      have HKN := Lib.hid (show k < O.length by rw [HN.out]; exact hk)
      have H1k := Lib.hid (And.intro hP trivial)
      have k0 : (0 : Int) ≤ (k : Int) := by omega
      have k1 : (k : Int) < (n : Int) := by omega
      have hbx := hP.box
      have c0 := hbx.cell 0 _ rfl; have c1 := hbx.cell 1 _ rfl; have c2 := hbx.cell 2 _ rfl; have c3 := hbx.cell 3 _ rfl; have c4 := hbx.cell 4 _ rfl; have c5 := hbx.cell 5 _ rfl; have c6 := hbx.cell 6 _ rfl; have c7 := hbx.cell 7 _ rfl; have c8 := hbx.cell 8 _ rfl; have c9 := hbx.cell 9 _ rfl
      obtain ⟨p0, p1, p2, p3⟩ := (HO.out _ hP.b).c k HKN.out
      clear hP HR gA okA hDs hDA hwr hn0 hzz hbx
      go_upto_region 13 with fail
      refine wp_region_held_drew (S := fun w' => w'.cell? ⟨b, off + k * 4, none⟩ = some (.int .i64 (opF O k).kind) ∧ w'.cell? ⟨b, off + k * 4 + 1, none⟩ = some (.int .i64 (opF O k).sec) ∧ w'.cell? ⟨b, off + k * 4 + 2, none⟩ = some (.int .i64 (opF O k).wrd) ∧ w'.cell? ⟨b, off + k * 4 + 3, none⟩ = some (.int .u32 (w32 (opF O k).w))) (by kernel_rfl) ⟨p0, p1, p2, p3⟩ (fun hS => ?_)
      refine wpAnyH_take (i := 0) (oi := { dst := some 77, op := .move (.tmp 7), type := 32, pos := "law.go:84", after := #[], guard := none }) (v := ?_) rfl (by kernel_rfl) (by kernel_rfl) (by kernel_rfl) (fun _ _ _ h => h) (Or.inl ⟨by rfl, ?_⟩) hS ?_
      rotate_left 1
      · intro w hw; obtain ⟨s0, s1, s2, s3⟩ := hw; go_simp; try (with_reducible rfl)
      simp only [Act.put, List.setIfInBounds_toArray, List.set_cons_zero, List.set_cons_succ]
      refine wpAnyH_take (i := 2) (oi := { dst := some 79, op := .move (.tmp 1), type := 24, pos := "law.go:84", after := #[], guard := none }) (v := ?_) rfl (by kernel_rfl) (by kernel_rfl) (by kernel_rfl) (fun _ _ _ h => h) (Or.inl ⟨by rfl, ?_⟩) hS ?_
      rotate_left 1
      · intro w hw; obtain ⟨s0, s1, s2, s3⟩ := hw; go_simp; try (with_reducible rfl)
      simp only [Act.put, List.setIfInBounds_toArray, List.set_cons_zero, List.set_cons_succ]
      refine wpAnyH_take (i := 3) (oi := { dst := some 80, op := .move (.tmp 10), type := 3, pos := "law.go:84", after := #[], guard := none }) (v := ?_) rfl (by kernel_rfl) (by kernel_rfl) (by kernel_rfl) (fun _ _ _ h => h) (Or.inl ⟨by rfl, ?_⟩) hS ?_
      rotate_left 1
      · intro w hw; obtain ⟨s0, s1, s2, s3⟩ := hw; go_simp; try (with_reducible rfl)
      simp only [Act.put, List.setIfInBounds_toArray, List.set_cons_zero, List.set_cons_succ]
      refine wpAnyH_take (i := 4) (oi := { dst := some 81, op := .indexAddr 24 (.tmp 79) (.tmp 80), type := 0, pos := "law.go:84", after := #[{ on := 2, ground := .data }, { on := 3, ground := .data }], guard := none }) (v := ?_) rfl (by kernel_rfl) (by kernel_rfl) (by kernel_rfl) (fun _ _ _ h => h) (Or.inl ⟨by rfl, ?_⟩) hS ?_
      rotate_left 1
      · intro w hw; obtain ⟨s0, s1, s2, s3⟩ := hw; go_simp; try (with_reducible rfl)
      simp only [Act.put, List.setIfInBounds_toArray, List.set_cons_zero, List.set_cons_succ]
      refine wpAnyH_take (i := 5) (oi := { dst := some 82, op := .load 40 (.tmp 81), type := 40, pos := "law.go:84", after := #[{ on := 4, ground := .data }], guard := none }) (v := ?_) rfl (by kernel_rfl) (by kernel_rfl) (by kernel_rfl) (fun _ _ _ h => h) (Or.inl ⟨by rfl, ?_⟩) hS ?_
      rotate_left 1
      · intro w hw; obtain ⟨s0, s1, s2, s3⟩ := hw; go_simp; try (with_reducible rfl)
      simp only [Act.put, List.setIfInBounds_toArray, List.set_cons_zero, List.set_cons_succ]
      refine wpAnyH_ready (rs := [1]) (by kernel_rfl) (by simp) (AllReadyH.cons (o := { dst := some 78, op := .load 29 (.tmp 5), type := 29, pos := "law.go:84", after := #[], guard := none }) rfl (fun K hK => ?_) AllReadyH.nil)
      go_simp
      refine hK.out _ _ hS (fun hHeld => ?_)
      clear hK K
      try simp only [Act.put, List.setIfInBounds_toArray, List.set_cons_zero, List.set_cons_succ]
      refine wpAnyH_ready (rs := [6]) (by kernel_rfl) (by simp) (AllReadyH.cons (o := { dst := some 83, op := .call { callee := .value (.func 14), args := #[.tmp 77, .tmp 78, .tmp 82], argTypes := #[32, 29, 40] }, type := 37, pos := "law.go:84", after := #[{ on := 0, ground := .data }, { on := 1, ground := .data }, { on := 5, ground := .data }], guard := none }) rfl (fun K hK => ?_) AllReadyH.nil)
      go_simp
      refine (do_any (H1k.out.1.dev.drewN 1) (H1k.out.1.ref.drewN 1) HDK.out.2.2.1 HDK.out.2.2.2.1 H1k.out.1.ne.1 H1k.out.1.ne.2.1 (opF O k) HDK.out.2.2.2.2.1 cL cW).mono ?_
      rintro e w3 ⟨bL', cL', bW', cW', rfl, hd3, hr3, e1, e2, hc3⟩
      have hc3' : Ch (OwnD q S g DA.ns) wr w3 := ((Ch.refl _ _).drewN 1).trans hc3
      have hP4 := H1k.out.1.next HDK.out.1 cL' cW' hd3 hr3 (show bL' = bL ∨ wr.heap.size ≤ bL' from e1) (show bW' = bW ∨ wr.heap.size ≤ bW' from e2) hc3'
      have H4 := Lib.hid hP4
      have hbx := H1k.out.1.box.keep hc3' H1k.out.1.ne.2.2.1
      have hb3 : Below w.heap.size w w3 := H1k.out.1.b.trans (hc3'.below (fun jj hj e => by have := H1k.out.1.hq _ e; omega) H1k.out.1.b.size)
      obtain ⟨o0, o1, o2, o3⟩ := (HO.out w3 hb3).c k HKN.out
      obtain ⟨r0, r1, r2, r3⟩ := (HO.out _ hP4.b).c k HKN.out
      clear c0 c1 c2 c3 c4 c5 c6 c7 c8 c9
      have c0 := hbx.cell 0 _ rfl; have c1 := hbx.cell 1 _ rfl; have c2 := hbx.cell 2 _ rfl; have c3 := hbx.cell 3 _ rfl; have c4 := hbx.cell 4 _ rfl; have c5 := hbx.cell 5 _ rfl; have c6 := hbx.cell 6 _ rfl; have c7 := hbx.cell 7 _ rfl; have c8 := hbx.cell 8 _ rfl; have c9 := hbx.cell 9 _ rfl
      have f0 := hbx.fr 0; have f1 := hbx.fr 1; have f2 := hbx.fr 2; have f3 := hbx.fr 3; have f4 := hbx.fr 4; have f5 := hbx.fr 5; have f6 := hbx.fr 6; have f7 := hbx.fr 7; have f8 := hbx.fr 8; have f9 := hbx.fr 9
      dsimp only [refX, refV]
      clear hd3 hr3 e1 e2 hc3 hc3' hP4 hbx hb3
      try dsimp only
      refine hK.out _ _ ⟨o0, o1, o2, o3⟩ (fun hHeld => ?_)
      clear hK K
      try simp only [Act.put, List.setIfInBounds_toArray, List.set_cons_zero, List.set_cons_succ]
      refine wpAnyH_take (i := 7) (oi := { dst := some 76, op := .move (.tmp 83), type := 37, pos := "law.go:84", after := #[{ on := 6, ground := .data }], guard := none }) (v := ?_) rfl (by kernel_rfl) (by kernel_rfl) (by kernel_rfl) (fun _ _ _ h => h) (Or.inl ⟨by rfl, ?_⟩) ⟨o0, o1, o2, o3⟩ ?_
      rotate_left 1
      · intro w hw; obtain ⟨s0, s1, s2, s3⟩ := hw; go_simp; try (with_reducible rfl)
      simp only [Act.put, List.setIfInBounds_toArray, List.set_cons_zero, List.set_cons_succ]
      refine wpAnyH_take (i := 8) (oi := { dst := some 84, op := .extract (.tmp 76) 0, type := 29, pos := "law.go:84", after := #[{ on := 7, ground := .data }], guard := none }) (v := ?_) rfl (by kernel_rfl) (by kernel_rfl) (by kernel_rfl) (fun _ _ _ h => h) (Or.inl ⟨by rfl, ?_⟩) ⟨o0, o1, o2, o3⟩ ?_
      rotate_left 1
      · intro w hw; obtain ⟨s0, s1, s2, s3⟩ := hw; go_simp; try (with_reducible rfl)
      simp only [Act.put, List.setIfInBounds_toArray, List.set_cons_zero, List.set_cons_succ]
      refine wpAnyH_take (i := 9) (oi := { dst := some 85, op := .extract (.tmp 76) 1, type := 4, pos := "law.go:84", after := #[{ on := 7, ground := .data }, { on := 10, ground := .gcOnly Go.Departure.lateStores }], guard := none }) (v := ?_) rfl (by kernel_rfl) (by kernel_rfl) (by kernel_rfl) (fun _ _ _ h => h) (Or.inl ⟨by rfl, ?_⟩) ⟨o0, o1, o2, o3⟩ ?_
      rotate_left 1
      · intro w hw; obtain ⟨s0, s1, s2, s3⟩ := hw; go_simp; try (with_reducible rfl)
      simp only [Act.put, List.setIfInBounds_toArray, List.set_cons_zero, List.set_cons_succ]
      refine wpAnyH_ready (rs := [10]) (by kernel_rfl) (by simp) (AllReadyH.cons (o := { dst := none, op := .store 29 (.tmp 5) (.tmp 84), type := 0, pos := "law.go:84", after := #[{ on := 8, ground := .data }, { on := 6, ground := .chain }, { on := 0, ground := .phase }, { on := 1, ground := .phase }, { on := 2, ground := .phase }, { on := 3, ground := .phase }, { on := 4, ground := .phase }, { on := 5, ground := .phase }, { on := 6, ground := .phase }, { on := 7, ground := .phase }, { on := 8, ground := .phase }, { on := 9, ground := .textOnly Go.Departure.lateStores }], guard := none }) rfl (fun K hK => ?_) AllReadyH.nil)
      go_simp
      refine hK.out _ _ ⟨r0, r1, r2, r3⟩ (fun hHeld => ?_)
      clear hK K
      try simp only [Act.put, List.setIfInBounds_toArray, List.set_cons_zero, List.set_cons_succ]
      refine wpAnyH_ready (rs := [11]) (by kernel_rfl) (by simp) (AllReadyH.cons (o := { dst := some 9, op := .assign (.tmp 85), type := 4, pos := "law.go:84", after := #[{ on := 9, ground := .data }, { on := 10, ground := .chain }, { on := 0, ground := .phase }, { on := 1, ground := .phase }, { on := 2, ground := .phase }, { on := 3, ground := .phase }, { on := 4, ground := .phase }, { on := 5, ground := .phase }, { on := 6, ground := .phase }, { on := 7, ground := .phase }, { on := 8, ground := .phase }, { on := 9, ground := .phase }, { on := 10, ground := .phase }], guard := none }) rfl (fun K hK => ?_) AllReadyH.nil)
      go_simp
      refine hK.out _ _ ⟨r0, r1, r2, r3⟩ (fun hHeld => ?_)
      clear hK K
      try simp only [Act.put, List.setIfInBounds_toArray, List.set_cons_zero, List.set_cons_succ]
      refine wpAnyH_done (by kernel_rfl) ?_ _
      have hP4 := H4.out
      clear c0 f0 c1 f1 c2 f2 c3 f3 c4 f4 c5 f5 c6 f6 c7 f7 c8 f8 c9 f9 o0 o1 o2 o3 p0 p1 p2 p3
      generalize hw4 : World.setCell _ _ _ = w4 at hP4 r0 r1 r2 r3 ⊢
      clear hw4 H4 H1k
      obtain ⟨DB, hDB⟩ : ∃ DB, DA.step (opF O k) = DB := ⟨_, rfl⟩
      have hkp := HDK.out.1
      have hnn := HDK.out.2.2.2.2.2.1
      rw [hDB] at hP4 hkp
      have HB := Lib.hid (And.intro (show DB.ns = ns ∧ DB.nw = nw from ⟨hkp.ns.trans hnn.1, hkp.nw.trans hnn.2⟩) (show stF D0 O (k + 1) = DB from HDK.out.2.1.trans hDB))
      have H4 := Lib.hid hP4
      have HRD := Lib.hid (fun wz (hz : DevAt wz q S g DB) => read_any hz (opF O k).sec (opF O k).wrd)
      have HRR := Lib.hid (fun wz (hz : RefIn wz bL' bW' DB.nn) => readR_any hz cL' cW' (opF O k).sec (opF O k).wrd)
      have HSM := Lib.hid (fun wz (hd : DevAt wz q S g DB) (hz : RefIn wz bL' bW' DB.nn) => same_any hd hz cL' cW' ns nw M HB.out.1.1 HB.out.1.2 HSP.out.2.2.2)
      obtain ⟨RW, hRW⟩ : ∃ RW, w32 (DB.readW (opF O k).sec (opF O k).wrd) = RW := ⟨_, rfl⟩
      obtain ⟨RE, hRE⟩ : ∃ RE, DB.readE (opF O k).sec (opF O k).wrd = RE := ⟨_, rfl⟩
      rw [show ∀ s k, DB.nn.readW s k = DB.readW s k from fun _ _ => rfl, show ∀ s k, DB.nn.readE s k = DB.readE s k from fun _ _ => rfl] at HRR
      rw [hRW, hRE] at HRD HRR
      clear hP4 hDB hkp hnn hRW hRE r0 r3
      go_upto_region 14 with fail
      refine wp_region_held_drew (S := fun w' => w'.cell? ⟨b, off + k * 4 + 1, none⟩ = some (.int .i64 (opF O k).sec) ∧ w'.cell? ⟨b, off + k * 4 + 2, none⟩ = some (.int .i64 (opF O k).wrd)) (by kernel_rfl) ⟨r1, r2⟩ (fun hS => ?_)
      refine wpAnyH_take (i := 0) (oi := { dst := some 87, op := .move (.tmp 7), type := 32, pos := "law.go:85", after := #[], guard := none }) (v := ?_) rfl (by kernel_rfl) (by kernel_rfl) (by kernel_rfl) (fun _ _ _ h => h) (Or.inl ⟨by rfl, ?_⟩) hS ?_
      rotate_left 1
      · intro w hw; obtain ⟨s0, s1⟩ := hw; go_simp; try (with_reducible rfl)
      simp only [Act.put, List.setIfInBounds_toArray, List.set_cons_zero, List.set_cons_succ]
      refine wpAnyH_take (i := 1) (oi := { dst := some 88, op := .move (.tmp 1), type := 24, pos := "law.go:85", after := #[], guard := none }) (v := ?_) rfl (by kernel_rfl) (by kernel_rfl) (by kernel_rfl) (fun _ _ _ h => h) (Or.inl ⟨by rfl, ?_⟩) hS ?_
      rotate_left 1
      · intro w hw; obtain ⟨s0, s1⟩ := hw; go_simp; try (with_reducible rfl)
      simp only [Act.put, List.setIfInBounds_toArray, List.set_cons_zero, List.set_cons_succ]
      refine wpAnyH_take (i := 2) (oi := { dst := some 89, op := .move (.tmp 10), type := 3, pos := "law.go:85", after := #[], guard := none }) (v := ?_) rfl (by kernel_rfl) (by kernel_rfl) (by kernel_rfl) (fun _ _ _ h => h) (Or.inl ⟨by rfl, ?_⟩) hS ?_
      rotate_left 1
      · intro w hw; obtain ⟨s0, s1⟩ := hw; go_simp; try (with_reducible rfl)
      simp only [Act.put, List.setIfInBounds_toArray, List.set_cons_zero, List.set_cons_succ]
      refine wpAnyH_take (i := 3) (oi := { dst := some 90, op := .indexAddr 24 (.tmp 88) (.tmp 89), type := 0, pos := "law.go:85", after := #[{ on := 1, ground := .data }, { on := 2, ground := .data }], guard := none }) (v := ?_) rfl (by kernel_rfl) (by kernel_rfl) (by kernel_rfl) (fun _ _ _ h => h) (Or.inl ⟨by rfl, ?_⟩) hS ?_
      rotate_left 1
      · intro w hw; obtain ⟨s0, s1⟩ := hw; go_simp; try (with_reducible rfl)
      simp only [Act.put, List.setIfInBounds_toArray, List.set_cons_zero, List.set_cons_succ]
      refine wpAnyH_take (i := 4) (oi := { dst := some 91, op := .fieldAddr 40 (.tmp 90) 1, type := 0, pos := "law.go:85", after := #[{ on := 3, ground := .data }], guard := none }) (v := ?_) rfl (by kernel_rfl) (by kernel_rfl) (by kernel_rfl) (fun _ _ _ h => h) (Or.inl ⟨by rfl, ?_⟩) hS ?_
      rotate_left 1
      · intro w hw; obtain ⟨s0, s1⟩ := hw; go_simp; try (with_reducible rfl)
      simp only [Act.put, List.setIfInBounds_toArray, List.set_cons_zero, List.set_cons_succ]
      refine wpAnyH_take (i := 5) (oi := { dst := some 92, op := .load 3 (.tmp 91), type := 3, pos := "law.go:85", after := #[{ on := 4, ground := .data }], guard := none }) (v := ?_) rfl (by kernel_rfl) (by kernel_rfl) (by kernel_rfl) (fun _ _ _ h => h) (Or.inl ⟨by rfl, ?_⟩) hS ?_
      rotate_left 1
      · intro w hw; obtain ⟨s0, s1⟩ := hw; go_simp; try (with_reducible rfl)
      simp only [Act.put, List.setIfInBounds_toArray, List.set_cons_zero, List.set_cons_succ]
      refine wpAnyH_take (i := 6) (oi := { dst := some 93, op := .move (.tmp 1), type := 24, pos := "law.go:85", after := #[], guard := none }) (v := ?_) rfl (by kernel_rfl) (by kernel_rfl) (by kernel_rfl) (fun _ _ _ h => h) (Or.inl ⟨by rfl, ?_⟩) hS ?_
      rotate_left 1
      · intro w hw; obtain ⟨s0, s1⟩ := hw; go_simp; try (with_reducible rfl)
      simp only [Act.put, List.setIfInBounds_toArray, List.set_cons_zero, List.set_cons_succ]
      refine wpAnyH_take (i := 7) (oi := { dst := some 94, op := .move (.tmp 10), type := 3, pos := "law.go:85", after := #[], guard := none }) (v := ?_) rfl (by kernel_rfl) (by kernel_rfl) (by kernel_rfl) (fun _ _ _ h => h) (Or.inl ⟨by rfl, ?_⟩) hS ?_
      rotate_left 1
      · intro w hw; obtain ⟨s0, s1⟩ := hw; go_simp; try (with_reducible rfl)
      simp only [Act.put, List.setIfInBounds_toArray, List.set_cons_zero, List.set_cons_succ]
      refine wpAnyH_take (i := 8) (oi := { dst := some 95, op := .indexAddr 24 (.tmp 93) (.tmp 94), type := 0, pos := "law.go:85", after := #[{ on := 6, ground := .data }, { on := 7, ground := .data }], guard := none }) (v := ?_) rfl (by kernel_rfl) (by kernel_rfl) (by kernel_rfl) (fun _ _ _ h => h) (Or.inl ⟨by rfl, ?_⟩) hS ?_
      rotate_left 1
      · intro w hw; obtain ⟨s0, s1⟩ := hw; go_simp; try (with_reducible rfl)
      simp only [Act.put, List.setIfInBounds_toArray, List.set_cons_zero, List.set_cons_succ]
      refine wpAnyH_take (i := 9) (oi := { dst := some 96, op := .fieldAddr 40 (.tmp 95) 2, type := 0, pos := "law.go:85", after := #[{ on := 8, ground := .data }], guard := none }) (v := ?_) rfl (by kernel_rfl) (by kernel_rfl) (by kernel_rfl) (fun _ _ _ h => h) (Or.inl ⟨by rfl, ?_⟩) hS ?_
      rotate_left 1
      · intro w hw; obtain ⟨s0, s1⟩ := hw; go_simp; try (with_reducible rfl)
      simp only [Act.put, List.setIfInBounds_toArray, List.set_cons_zero, List.set_cons_succ]
      refine wpAnyH_take (i := 10) (oi := { dst := some 97, op := .load 3 (.tmp 96), type := 3, pos := "law.go:85", after := #[{ on := 9, ground := .data }], guard := none }) (v := ?_) rfl (by kernel_rfl) (by kernel_rfl) (by kernel_rfl) (fun _ _ _ h => h) (Or.inl ⟨by rfl, ?_⟩) hS ?_
      rotate_left 1
      · intro w hw; obtain ⟨s0, s1⟩ := hw; go_simp; try (with_reducible rfl)
      simp only [Act.put, List.setIfInBounds_toArray, List.set_cons_zero, List.set_cons_succ]
      refine wpAnyH_ready (rs := [11]) (by kernel_rfl) (by simp) (AllReadyH.cons (o := { dst := some 98, op := .call { callee := .value (.func 15), args := #[.tmp 87, .tmp 92, .tmp 97], argTypes := #[32, 3, 3] }, type := 41, pos := "law.go:85", after := #[{ on := 0, ground := .data }, { on := 5, ground := .data }, { on := 10, ground := .data }], guard := none }) rfl (fun K hK => ?_) AllReadyH.nil)
      go_simp
      refine (HRD.out _ (H4.out.dev.drewN _)).mono ?_
      rintro e w5 ⟨rfl, rfl⟩
      try dsimp only
      refine hK.out _ _ hS (fun hHeld => ?_)
      clear hK K
      try simp only [Act.put, List.setIfInBounds_toArray, List.set_cons_zero, List.set_cons_succ]
      refine wpAnyH_take (i := 12) (oi := { dst := some 86, op := .move (.tmp 98), type := 41, pos := "law.go:85", after := #[{ on := 11, ground := .data }], guard := none }) (v := ?_) rfl (by kernel_rfl) (by kernel_rfl) (by kernel_rfl) (fun _ _ _ h => h) (Or.inl ⟨by rfl, ?_⟩) hS ?_
      rotate_left 1
      · intro w hw; obtain ⟨s0, s1⟩ := hw; go_simp; try (with_reducible rfl)
      simp only [Act.put, List.setIfInBounds_toArray, List.set_cons_zero, List.set_cons_succ]
      refine wpAnyH_take (i := 13) (oi := { dst := some 99, op := .extract (.tmp 86) 0, type := 27, pos := "law.go:85", after := #[{ on := 12, ground := .data }], guard := none }) (v := ?_) rfl (by kernel_rfl) (by kernel_rfl) (by kernel_rfl) (fun _ _ _ h => h) (Or.inl ⟨by rfl, ?_⟩) hS ?_
      rotate_left 1
      · intro w hw; obtain ⟨s0, s1⟩ := hw; go_simp; try (with_reducible rfl)
      simp only [Act.put, List.setIfInBounds_toArray, List.set_cons_zero, List.set_cons_succ]
      refine wpAnyH_take (i := 14) (oi := { dst := some 100, op := .extract (.tmp 86) 1, type := 33, pos := "law.go:85", after := #[{ on := 12, ground := .data }, { on := 15, ground := .gcOnly Go.Departure.lateStores }], guard := none }) (v := ?_) rfl (by kernel_rfl) (by kernel_rfl) (by kernel_rfl) (fun _ _ _ h => h) (Or.inl ⟨by rfl, ?_⟩) hS ?_
      rotate_left 1
      · intro w hw; obtain ⟨s0, s1⟩ := hw; go_simp; try (with_reducible rfl)
      simp only [Act.put, List.setIfInBounds_toArray, List.set_cons_zero, List.set_cons_succ]
      refine wpAnyH_ready (rs := [15]) (by kernel_rfl) (by simp) (AllReadyH.cons (o := { dst := some 11, op := .assign (.tmp 99), type := 27, pos := "law.go:85", after := #[{ on := 13, ground := .data }, { on := 11, ground := .chain }, { on := 0, ground := .phase }, { on := 1, ground := .phase }, { on := 2, ground := .phase }, { on := 3, ground := .phase }, { on := 4, ground := .phase }, { on := 5, ground := .phase }, { on := 6, ground := .phase }, { on := 7, ground := .phase }, { on := 8, ground := .phase }, { on := 9, ground := .phase }, { on := 10, ground := .phase }, { on := 11, ground := .phase }, { on := 12, ground := .phase }, { on := 13, ground := .phase }, { on := 14, ground := .textOnly Go.Departure.lateStores }], guard := none }) rfl (fun K hK => ?_) AllReadyH.nil)
      go_simp
      refine hK.out _ _ hS (fun hHeld => ?_)
      clear hK K
      try simp only [Act.put, List.setIfInBounds_toArray, List.set_cons_zero, List.set_cons_succ]
      refine wpAnyH_ready (rs := [16]) (by kernel_rfl) (by simp) (AllReadyH.cons (o := { dst := some 12, op := .assign (.tmp 100), type := 33, pos := "law.go:85", after := #[{ on := 14, ground := .data }, { on := 15, ground := .chain }, { on := 0, ground := .phase }, { on := 1, ground := .phase }, { on := 2, ground := .phase }, { on := 3, ground := .phase }, { on := 4, ground := .phase }, { on := 5, ground := .phase }, { on := 6, ground := .phase }, { on := 7, ground := .phase }, { on := 8, ground := .phase }, { on := 9, ground := .phase }, { on := 10, ground := .phase }, { on := 11, ground := .phase }, { on := 12, ground := .phase }, { on := 13, ground := .phase }, { on := 14, ground := .phase }, { on := 15, ground := .phase }], guard := none }) rfl (fun K hK => ?_) AllReadyH.nil)
      go_simp
      refine hK.out _ _ hS (fun hHeld => ?_)
      clear hK K
      try simp only [Act.put, List.setIfInBounds_toArray, List.set_cons_zero, List.set_cons_succ]
      refine wpAnyH_done (by kernel_rfl) ?_ _
      have hbx := H4.out.box
      go_upto_region 15 with fail
      refine wp_region_held_drew (S := fun w' => BoxAt w' N [.int .i64 DB.nn.ns, .int .i64 DB.nn.nw, .int .i64 DB.nn.limit, .slice (some ⟨bL', 0, none⟩) (DB.nn.ns * DB.nn.nw : Nat) cL', .slice (some ⟨bW', 0, none⟩) DB.nn.ns cW', .bool (!DB.nn.on), .bool DB.nn.armed, .int .i64 DB.nn.after, .int .u32 (w32 DB.nn.seed), .int .i64 DB.nn.ops] ∧ w'.cell? ⟨b, off + k * 4 + 1, none⟩ = some (.int .i64 (opF O k).sec) ∧ w'.cell? ⟨b, off + k * 4 + 2, none⟩ = some (.int .i64 (opF O k).wrd)) (by kernel_rfl) ⟨hbx.new (below_dn (below_dn (Below.refl _ w4) 1) 1), r1, r2⟩ (fun hS => ?_)
      refine wpAnyH_take (i := 0) (oi := { dst := some 102, op := .load 29 (.tmp 5), type := 29, pos := "law.go:86", after := #[], guard := none }) (v := ?_) rfl (by kernel_rfl) (by kernel_rfl) (by kernel_rfl) (fun _ _ _ h => h) (Or.inl ⟨by rfl, ?_⟩) hS ?_
      rotate_left 1
      · intro w hw; obtain ⟨hx, s0, s1⟩ := hw; have z0 := hx.cell 0 _ rfl; have z1 := hx.cell 1 _ rfl; have z2 := hx.cell 2 _ rfl; have z3 := hx.cell 3 _ rfl; have z4 := hx.cell 4 _ rfl; have z5 := hx.cell 5 _ rfl; have z6 := hx.cell 6 _ rfl; have z7 := hx.cell 7 _ rfl; have z8 := hx.cell 8 _ rfl; have z9 := hx.cell 9 _ rfl; go_simp; try (with_reducible rfl)
      simp only [Act.put, List.setIfInBounds_toArray, List.set_cons_zero, List.set_cons_succ]
      refine wpAnyH_take (i := 1) (oi := { dst := some 103, op := .move (.tmp 1), type := 24, pos := "law.go:86", after := #[], guard := none }) (v := ?_) rfl (by kernel_rfl) (by kernel_rfl) (by kernel_rfl) (fun _ _ _ h => h) (Or.inl ⟨by rfl, ?_⟩) hS ?_
      rotate_left 1
      · intro w hw; obtain ⟨hx, s0, s1⟩ := hw; go_simp; try (with_reducible rfl)
      simp only [Act.put, List.setIfInBounds_toArray, List.set_cons_zero, List.set_cons_succ]
      refine wpAnyH_take (i := 2) (oi := { dst := some 104, op := .move (.tmp 10), type := 3, pos := "law.go:86", after := #[], guard := none }) (v := ?_) rfl (by kernel_rfl) (by kernel_rfl) (by kernel_rfl) (fun _ _ _ h => h) (Or.inl ⟨by rfl, ?_⟩) hS ?_
      rotate_left 1
      · intro w hw; obtain ⟨hx, s0, s1⟩ := hw; go_simp; try (with_reducible rfl)
      simp only [Act.put, List.setIfInBounds_toArray, List.set_cons_zero, List.set_cons_succ]
      refine wpAnyH_take (i := 3) (oi := { dst := some 105, op := .indexAddr 24 (.tmp 103) (.tmp 104), type := 0, pos := "law.go:86", after := #[{ on := 1, ground := .data }, { on := 2, ground := .data }], guard := none }) (v := ?_) rfl (by kernel_rfl) (by kernel_rfl) (by kernel_rfl) (fun _ _ _ h => h) (Or.inl ⟨by rfl, ?_⟩) hS ?_
      rotate_left 1
      · intro w hw; obtain ⟨hx, s0, s1⟩ := hw; go_simp; try (with_reducible rfl)
      simp only [Act.put, List.setIfInBounds_toArray, List.set_cons_zero, List.set_cons_succ]
      refine wpAnyH_take (i := 4) (oi := { dst := some 106, op := .fieldAddr 40 (.tmp 105) 1, type := 0, pos := "law.go:86", after := #[{ on := 3, ground := .data }], guard := none }) (v := ?_) rfl (by kernel_rfl) (by kernel_rfl) (by kernel_rfl) (fun _ _ _ h => h) (Or.inl ⟨by rfl, ?_⟩) hS ?_
      rotate_left 1
      · intro w hw; obtain ⟨hx, s0, s1⟩ := hw; go_simp; try (with_reducible rfl)
      simp only [Act.put, List.setIfInBounds_toArray, List.set_cons_zero, List.set_cons_succ]
      refine wpAnyH_take (i := 5) (oi := { dst := some 107, op := .load 3 (.tmp 106), type := 3, pos := "law.go:86", after := #[{ on := 4, ground := .data }], guard := none }) (v := ?_) rfl (by kernel_rfl) (by kernel_rfl) (by kernel_rfl) (fun _ _ _ h => h) (Or.inl ⟨by rfl, ?_⟩) hS ?_
      rotate_left 1
      · intro w hw; obtain ⟨hx, s0, s1⟩ := hw; go_simp; try (with_reducible rfl)
      simp only [Act.put, List.setIfInBounds_toArray, List.set_cons_zero, List.set_cons_succ]
      refine wpAnyH_take (i := 6) (oi := { dst := some 108, op := .move (.tmp 1), type := 24, pos := "law.go:86", after := #[], guard := none }) (v := ?_) rfl (by kernel_rfl) (by kernel_rfl) (by kernel_rfl) (fun _ _ _ h => h) (Or.inl ⟨by rfl, ?_⟩) hS ?_
      rotate_left 1
      · intro w hw; obtain ⟨hx, s0, s1⟩ := hw; go_simp; try (with_reducible rfl)
      simp only [Act.put, List.setIfInBounds_toArray, List.set_cons_zero, List.set_cons_succ]
      refine wpAnyH_take (i := 7) (oi := { dst := some 109, op := .move (.tmp 10), type := 3, pos := "law.go:86", after := #[], guard := none }) (v := ?_) rfl (by kernel_rfl) (by kernel_rfl) (by kernel_rfl) (fun _ _ _ h => h) (Or.inl ⟨by rfl, ?_⟩) hS ?_
      rotate_left 1
      · intro w hw; obtain ⟨hx, s0, s1⟩ := hw; go_simp; try (with_reducible rfl)
      simp only [Act.put, List.setIfInBounds_toArray, List.set_cons_zero, List.set_cons_succ]
      refine wpAnyH_take (i := 8) (oi := { dst := some 110, op := .indexAddr 24 (.tmp 108) (.tmp 109), type := 0, pos := "law.go:86", after := #[{ on := 6, ground := .data }, { on := 7, ground := .data }], guard := none }) (v := ?_) rfl (by kernel_rfl) (by kernel_rfl) (by kernel_rfl) (fun _ _ _ h => h) (Or.inl ⟨by rfl, ?_⟩) hS ?_
      rotate_left 1
      · intro w hw; obtain ⟨hx, s0, s1⟩ := hw; go_simp; try (with_reducible rfl)
      simp only [Act.put, List.setIfInBounds_toArray, List.set_cons_zero, List.set_cons_succ]
      refine wpAnyH_take (i := 9) (oi := { dst := some 111, op := .fieldAddr 40 (.tmp 110) 2, type := 0, pos := "law.go:86", after := #[{ on := 8, ground := .data }], guard := none }) (v := ?_) rfl (by kernel_rfl) (by kernel_rfl) (by kernel_rfl) (fun _ _ _ h => h) (Or.inl ⟨by rfl, ?_⟩) hS ?_
      rotate_left 1
      · intro w hw; obtain ⟨hx, s0, s1⟩ := hw; go_simp; try (with_reducible rfl)
      simp only [Act.put, List.setIfInBounds_toArray, List.set_cons_zero, List.set_cons_succ]
      refine wpAnyH_take (i := 10) (oi := { dst := some 112, op := .load 3 (.tmp 111), type := 3, pos := "law.go:86", after := #[{ on := 9, ground := .data }], guard := none }) (v := ?_) rfl (by kernel_rfl) (by kernel_rfl) (by kernel_rfl) (fun _ _ _ h => h) (Or.inl ⟨by rfl, ?_⟩) hS ?_
      rotate_left 1
      · intro w hw; obtain ⟨hx, s0, s1⟩ := hw; go_simp; try (with_reducible rfl)
      simp only [Act.put, List.setIfInBounds_toArray, List.set_cons_zero, List.set_cons_succ]
      refine wpAnyH_ready (rs := [11]) (by kernel_rfl) (by simp) (AllReadyH.cons (o := { dst := some 113, op := .call { callee := .value (.func 16), args := #[.tmp 102, .tmp 107, .tmp 112], argTypes := #[29, 3, 3] }, type := 43, pos := "law.go:86", after := #[{ on := 0, ground := .data }, { on := 5, ground := .data }, { on := 10, ground := .data }], guard := none }) rfl (fun K hK => ?_) AllReadyH.nil)
      go_simp
      refine (HRR.out _ ((H4.out.ref.drewN 1).drewN 1)).mono ?_
      rintro e w5 ⟨rfl, hb5⟩
      have hP5 := H4.out.new ((below_dn (below_dn (Below.refl w4.heap.size w4) 1) 1).trans hb5)
      have H5 := Lib.hid hP5
      obtain ⟨o0, o1, o2, o3⟩ := (HO.out _ hP5.b).c k HKN.out
      have hS5 := And.intro hP5.box (And.intro o1 o2)
      clear hb5 hP5 o0 o1 o2 o3
      try dsimp only
      refine hK.out _ _ hS5 (fun hHeld => ?_)
      clear hK K
      try simp only [Act.put, List.setIfInBounds_toArray, List.set_cons_zero, List.set_cons_succ]
      refine wpAnyH_take (i := 12) (oi := { dst := some 101, op := .move (.tmp 113), type := 43, pos := "law.go:86", after := #[{ on := 11, ground := .data }], guard := none }) (v := ?_) rfl (by kernel_rfl) (by kernel_rfl) (by kernel_rfl) (fun _ _ _ h => h) (Or.inl ⟨by rfl, ?_⟩) hS5 ?_
      rotate_left 1
      · intro w hw; obtain ⟨hx, s0, s1⟩ := hw; go_simp; try (with_reducible rfl)
      simp only [Act.put, List.setIfInBounds_toArray, List.set_cons_zero, List.set_cons_succ]
      refine wpAnyH_take (i := 13) (oi := { dst := some 114, op := .extract (.tmp 101) 0, type := 27, pos := "law.go:86", after := #[{ on := 12, ground := .data }], guard := none }) (v := ?_) rfl (by kernel_rfl) (by kernel_rfl) (by kernel_rfl) (fun _ _ _ h => h) (Or.inl ⟨by rfl, ?_⟩) hS5 ?_
      rotate_left 1
      · intro w hw; obtain ⟨hx, s0, s1⟩ := hw; go_simp; try (with_reducible rfl)
      simp only [Act.put, List.setIfInBounds_toArray, List.set_cons_zero, List.set_cons_succ]
      refine wpAnyH_take (i := 14) (oi := { dst := some 115, op := .extract (.tmp 101) 1, type := 3, pos := "law.go:86", after := #[{ on := 12, ground := .data }, { on := 15, ground := .gcOnly Go.Departure.lateStores }], guard := none }) (v := ?_) rfl (by kernel_rfl) (by kernel_rfl) (by kernel_rfl) (fun _ _ _ h => h) (Or.inl ⟨by rfl, ?_⟩) hS5 ?_
      rotate_left 1
      · intro w hw; obtain ⟨hx, s0, s1⟩ := hw; go_simp; try (with_reducible rfl)
      simp only [Act.put, List.setIfInBounds_toArray, List.set_cons_zero, List.set_cons_succ]
      refine wpAnyH_ready (rs := [15]) (by kernel_rfl) (by simp) (AllReadyH.cons (o := { dst := some 13, op := .assign (.tmp 114), type := 27, pos := "law.go:86", after := #[{ on := 13, ground := .data }, { on := 11, ground := .chain }, { on := 0, ground := .phase }, { on := 1, ground := .phase }, { on := 2, ground := .phase }, { on := 3, ground := .phase }, { on := 4, ground := .phase }, { on := 5, ground := .phase }, { on := 6, ground := .phase }, { on := 7, ground := .phase }, { on := 8, ground := .phase }, { on := 9, ground := .phase }, { on := 10, ground := .phase }, { on := 11, ground := .phase }, { on := 12, ground := .phase }, { on := 13, ground := .phase }, { on := 14, ground := .textOnly Go.Departure.lateStores }], guard := none }) rfl (fun K hK => ?_) AllReadyH.nil)
      go_simp
      refine hK.out _ _ hS5 (fun hHeld => ?_)
      clear hK K
      try simp only [Act.put, List.setIfInBounds_toArray, List.set_cons_zero, List.set_cons_succ]
      refine wpAnyH_ready (rs := [16]) (by kernel_rfl) (by simp) (AllReadyH.cons (o := { dst := some 14, op := .assign (.tmp 115), type := 3, pos := "law.go:86", after := #[{ on := 14, ground := .data }, { on := 15, ground := .chain }, { on := 0, ground := .phase }, { on := 1, ground := .phase }, { on := 2, ground := .phase }, { on := 3, ground := .phase }, { on := 4, ground := .phase }, { on := 5, ground := .phase }, { on := 6, ground := .phase }, { on := 7, ground := .phase }, { on := 8, ground := .phase }, { on := 9, ground := .phase }, { on := 10, ground := .phase }, { on := 11, ground := .phase }, { on := 12, ground := .phase }, { on := 13, ground := .phase }, { on := 14, ground := .phase }, { on := 15, ground := .phase }], guard := none }) rfl (fun K hK => ?_) AllReadyH.nil)
      go_simp
      refine hK.out _ _ hS5 (fun hHeld => ?_)
      clear hK K
      try simp only [Act.put, List.setIfInBounds_toArray, List.set_cons_zero, List.set_cons_succ]
      refine wpAnyH_done (by kernel_rfl) ?_ _
      have hbx5 := H5.out.box
      have c0 := hbx5.cell 0 _ rfl; have c1 := hbx5.cell 1 _ rfl; have c2 := hbx5.cell 2 _ rfl; have c3 := hbx5.cell 3 _ rfl; have c4 := hbx5.cell 4 _ rfl; have c5 := hbx5.cell 5 _ rfl; have c6 := hbx5.cell 6 _ rfl; have c7 := hbx5.cell 7 _ rfl; have c8 := hbx5.cell 8 _ rfl; have c9 := hbx5.cell 9 _ rfl
      clear hbx hbx5 hS5 r1 r2
      go_wp2_with (first
        | (go_at_call 17; go_must (
            refine (HSM.out _ H5.out.dev H5.out.ref).mono ?_
            rintro e w6 ⟨rfl, hb6⟩
            have H6 := Lib.hid (H5.out.new hb6)
            clear hb6))
        | fail)
      go_roundg g1
      case measure => omega
      case rel => exact ⟨k + 1, by omega, by go_num, bL', cL', bW', cW', by rw [HB.out.2]; exact H6.out⟩
theorem law_fplays (x1 x2 x3 : Int) (sp : Option Addr) (b off cap : Nat) (O : List FOp) (w : World) (hsp : 0 < O.length → sp = some ⟨b, off, none⟩) (hO : OpsAt w b off O) :
    Calls Try.prog 3 #[.agg #[.int .i64 x1, .int .i64 x2, .int .i64 x3], .slice sp O.length cap] w fun e w' => e = .returned (.bool true) ∧ Below w.heap.size w w' := by
  by_cases h : 60 < O.length
  · exact fplays_long x1 x2 x3 sp O.length cap w h
  by_cases hk : okSize x1 x2 x3
  · have hk2 := hk
    unfold okSize at hk2
    obtain ⟨ns, rfl⟩ : ∃ ns : Nat, x1 = ns := ⟨x1.toNat, by omega⟩
    obtain ⟨nw, rfl⟩ : ∃ nw : Nat, x2 = nw := ⟨x2.toNat, by omega⟩
    by_cases hm : 400 < ns * nw
    · exact fplays_many ns nw x3 sp O.length cap w h hk hm
    · exact fplays_in ns nw x3 sp b off cap O w (by omega) hk (by omega) hsp hO
  · exact fplays_bad x1 x2 x3 sp O.length cap w h hk
end Go.Proofs.Ytkbmgilceioieaa
