/- The walk of BankFits. -/
import Derived.Test.YthpagbfabpfngaaXC
namespace Go.Proofs.Ythpagbfabpfngaa
open Go.RowKit

set_option maxHeartbeats 2000000 in
theorem newR_bad (sec wds lim : Int) (w : World) (h : ¬ okSize sec wds lim) : Calls Try.prog 8 #[.int .i64 sec, .int .i64 wds, .int .i64 lim] w fun e w' => e = .returned (.tuple #[.agg #[.int .i64 0, .int .i64 0, .int .i64 0, .slice none 0 0, .slice none 0 0, .bool false, .bool false, .int .i64 0, .int .u32 0, .int .i64 0], .int .i64 64]) ∧ Below w.heap.size w w' := by
  unfold okSize at h
  by_cases h1 : sec < 1
  · clear h
    go_enter Try.func8, Try.ntmps8
    go_wp2
    exact bodyPost_ret (results_row rfl _ _ w.heap.size 28 #[.int .i64 0, .int .i64 0, .int .i64 0, .slice none 0 0, .slice none 0 0, .bool false, .bool false, .int .i64 0, .int .u32 0, .int .i64 0] _ rfl (RowAt.mk w _ _) Try.underlying28 rfl (by kernel_rfl)) rfl ⟨rfl, (Below.refl _ _).alloc (Nat.le_refl _) _⟩
  by_cases h2 : 64 < sec
  · clear h
    go_enter Try.func8, Try.ntmps8
    go_wp2
    exact bodyPost_ret (results_row rfl _ _ w.heap.size 28 #[.int .i64 0, .int .i64 0, .int .i64 0, .slice none 0 0, .slice none 0 0, .bool false, .bool false, .int .i64 0, .int .u32 0, .int .i64 0] _ rfl (RowAt.mk w _ _) Try.underlying28 rfl (by kernel_rfl)) rfl ⟨rfl, (Below.refl _ _).alloc (Nat.le_refl _) _⟩
  by_cases h3 : wds < 1
  · clear h
    go_enter Try.func8, Try.ntmps8
    go_wp2
    exact bodyPost_ret (results_row rfl _ _ w.heap.size 28 #[.int .i64 0, .int .i64 0, .int .i64 0, .slice none 0 0, .slice none 0 0, .bool false, .bool false, .int .i64 0, .int .u32 0, .int .i64 0] _ rfl (RowAt.mk w _ _) Try.underlying28 rfl (by kernel_rfl)) rfl ⟨rfl, (Below.refl _ _).alloc (Nat.le_refl _) _⟩
  by_cases h4 : 1024 < wds
  · clear h
    go_enter Try.func8, Try.ntmps8
    go_wp2
    exact bodyPost_ret (results_row rfl _ _ w.heap.size 28 #[.int .i64 0, .int .i64 0, .int .i64 0, .slice none 0 0, .slice none 0 0, .bool false, .bool false, .int .i64 0, .int .u32 0, .int .i64 0] _ rfl (RowAt.mk w _ _) Try.underlying28 rfl (by kernel_rfl)) rfl ⟨rfl, (Below.refl _ _).alloc (Nat.le_refl _) _⟩
  by_cases h5 : lim < 0
  · clear h
    go_enter Try.func8, Try.ntmps8
    go_wp2
    exact bodyPost_ret (results_row rfl _ _ w.heap.size 28 #[.int .i64 0, .int .i64 0, .int .i64 0, .slice none 0 0, .slice none 0 0, .bool false, .bool false, .int .i64 0, .int .u32 0, .int .i64 0] _ rfl (RowAt.mk w _ _) Try.underlying28 rfl (by kernel_rfl)) rfl ⟨rfl, (Below.refl _ _).alloc (Nat.le_refl _) _⟩
  by_cases h6 : 1048576 < lim
  · clear h
    go_enter Try.func8, Try.ntmps8
    go_wp2
    exact bodyPost_ret (results_row rfl _ _ w.heap.size 28 #[.int .i64 0, .int .i64 0, .int .i64 0, .slice none 0 0, .slice none 0 0, .bool false, .bool false, .int .i64 0, .int .u32 0, .int .i64 0] _ rfl (RowAt.mk w _ _) Try.underlying28 rfl (by kernel_rfl)) rfl ⟨rfl, (Below.refl _ _).alloc (Nat.le_refl _) _⟩
  omega

theorem newR_ok8 (ns nw : Nat) (w : World) (h : okSize ns nw 9) : Calls Try.prog 8 #[.int .i64 ns, .int .i64 nw, .int .i64 9] w fun e w' => ∃ bL cL bW cW : Nat, e = .returned (.tuple #[.agg #[.int .i64 (ns : Nat), .int .i64 (nw : Nat), .int .i64 9, .slice (some ⟨bL, 0, none⟩) (ns * nw : Nat) cL, .slice (some ⟨bW, 0, none⟩) (ns : Nat) cW, .bool false, .bool false, .int .i64 0, .int .u32 0, .int .i64 0], .int .i64 0]) ∧ Below w.heap.size w w' := by
  refine (newR_ok ns nw 9 w h).mono ?_
  rintro e w' ⟨bL, cL, bW, cW, rfl, -, -, -, hb⟩
  exact ⟨bL, cL, bW, cW, rfl, hb⟩
theorem fresh_worn (ns nw base many : Nat) : wornB (Dev.fresh ns nw 9) base many = false := wornB_none (fun i _ => by show ¬ (9 : Int) ≤ 0; decide)
theorem fresh_ok (ns nw base many : Nat) : stOK (Dev.fresh ns nw 9) base many = false := by
  unfold stOK
  rw [show validH ((Dev.fresh ns nw 9).word (base + 1)) = false from valid0 (by show ((4294967295#32 : BitVec 32) == ~~~(4294967295#32)) = false; decide)]
  rfl
theorem fresh_void (ns nw base : Nat) : voidB (Dev.fresh ns nw 9) base = false := rfl
theorem fresh_state {w : World} {B q S : Nat} {g : Nat → Nat} {ns nw base many : Nat} {op : Bool} {P : List (BitVec 32)} (h : Bk w B q S g (Dev.fresh ns nw 9) base many op P) :
    Calls Try.prog 16 #[.pointer (some ⟨B, 0, none⟩)] w fun e w' => ∃ t : Nat, e = .returned (.agg #[.int .u32 0, .int .u32 0, .int .u32 0, .bool false, .bool false, .int .i64 t]) ∧ Below w.heap.size w w' := by
  have := state_any h
  unfold stV at this
  rw [fresh_ok] at this
  simp only [Bool.false_eq_true, if_false] at this
  exact this.mono fun e w' ⟨h1, h2⟩ => ⟨_, h1, h2⟩
set_option maxHeartbeats 8000000 in
set_option maxRecDepth 100000 in
theorem law_fits (sec wds base many : Int) (hsec : -9223372036854775808 ≤ sec ∧ sec ≤ 9223372036854775807) (hb : -9223372036854775808 ≤ base ∧ base ≤ 9223372036854775807) (hm : -9223372036854775808 ≤ many ∧ many ≤ 9223372036854775807) (w : World) :
    Calls Try.prog 3 #[.int .i64 sec, .int .i64 wds, .agg #[.int .i64 base, .int .i64 many]] w fun e w' => e = .returned (.bool true) ∧ Below w.heap.size w w' := by
  have hr := Lib.hid (And.intro hb hm)
  have F1 := run_fieldS1
  have fv := fresh_void
  by_cases hs : okSize sec wds 9
  · obtain ⟨ns, rfl⟩ : ∃ ns : Nat, sec = ns := ⟨sec.toNat, by have := hs.1; omega⟩
    obtain ⟨nw, rfl⟩ : ∃ nw : Nat, wds = nw := ⟨wds.toNat, by have := hs.2.2.1; omega⟩
    obtain ⟨wp, hwp⟩ : ∃ wp, w.alloc (.cells #[.int .i64 base, .int .i64 many] 23) = wp := ⟨_, rfl⟩
    obtain ⟨z, hz⟩ : ∃ z, w.heap.size = z := ⟨_, rfl⟩
    have bp : Below w.heap.size w wp := by rw [← hwp]; exact (Below.refl _ _).alloc (Nat.le_refl _) _
    have xp : BoxAt wp z [.int .i64 base, .int .i64 many] := by rw [← hwp, ← hz]; exact BoxAt.mk_new w _ _
    have HP := Lib.hid (show ∀ W', Below wp.heap.size wp W' → W'.cell? ⟨z, 0, none⟩ = some (.int .i64 base) ∧ W'.cell? ⟨z, 1, none⟩ = some (.int .i64 many) from fun W' hb => ⟨(xp.new hb).cell 0 _ rfl, (xp.new hb).cell 1 _ rfl⟩)
    have HNR := Lib.hid (newR_ok8 ns nw wp hs)
    have HN := Lib.hid (fun wx => new_ok ns nw 9 wx hs)
    have HB2 := Lib.hid (show ∀ (w1 w2 : World) (c : Array Value) (t : TypeId), Below wp.heap.size wp w1 → Below (w1.alloc (.cells c t)).heap.size (w1.alloc (.cells c t)) w2 → Below w.heap.size w w2 ∧ Below wp.heap.size wp w2 from fun w1 w2 c t h1 h2 => by
      have h3 : Below wp.heap.size wp w2 := h1.trans ((((Below.refl w1.heap.size w1).alloc (Nat.le_refl _) (.cells c t)).trans (h2.mono (by simp))).mono h1.size)
      exact ⟨bp.trans (h3.mono bp.size), h3⟩)
    have HB5 := Lib.hid (show ∀ (w1 : World) (c : Array Value) (t : TypeId), Below wp.heap.size wp w1 → Below z w (w1.alloc (.cells c t)) from fun w1 c t h1 => by
      rw [← hz]
      exact bp.trans ((h1.trans ((Below.refl w1.heap.size w1).alloc (Nat.le_refl _) (.cells c t) |>.mono h1.size)).mono bp.size))
    obtain ⟨M, hM⟩ : ∃ M, ns * nw = M := ⟨_, rfl⟩
    have hMI : (ns : Int) * (nw : Int) = (M : Int) := by rw [← hM]; push_cast; rfl
    rw [hM] at HNR
    have HS := Lib.hid (And.intro hs (And.intro hM hMI))
    by_cases h5 : 5000 < M
    · clear hs xp bp hM hMI
      go_enter Try.func3, Try.ntmps3
      go_wp2_with (first
        | (go_at_call 8; refine HNR.out.mono ?_; rintro e w1 ⟨bL, cL, bW, cW, rfl, b1⟩; have H1 := Lib.hid b1; clear b1)
        | (go_at_call 9; refine (HN.out _).mono ?_; rintro e w2 ⟨q, S, g, rfl, h2, l2, b2⟩; have H2 := Lib.hid (And.intro h2 (HB2.out _ _ _ _ H1.out b2)); have p20 := (HP.out w2 H2.out.2.2).1; have p21 := (HP.out w2 H2.out.2.2).2; clear h2 l2 b2)
        | fail)
      go_ret
      rw [hz]
      exact ⟨rfl, HB5.out w1 _ _ H1.out⟩
    · have h5' : ¬ 5000 < M := h5
      by_cases hok : 3 ≤ many ∧ many ≤ 64 ∧ 13 ≤ nw ∧ 0 ≤ base ∧ base ≤ (ns : Int) - many
      · obtain ⟨m, rfl⟩ : ∃ m : Nat, many = (m : Int) + 2 := ⟨(many - 2).toNat, by omega⟩
        obtain ⟨bn, rfl⟩ : ∃ bn : Nat, base = bn := ⟨base.toNat, by omega⟩
        have hfit : bn + (m + 2) ≤ ns ∧ 3 ≤ m + 2 ∧ 13 ≤ nw := by omega
        obtain ⟨t, ht⟩ : ∃ t, m * nw = t := ⟨_, rfl⟩
        have hml : m ≤ ns := by omega
        have hle : t ≤ M := by rw [← ht, ← hM]; exact Nat.mul_le_mul hml (Nat.le_refl _)
        have hrm : roomN (Dev.fresh ns nw 9) (m + 2) = min t 4096 := by unfold roomN; rw [← ht]; rfl
        have HF := Lib.hid (And.intro hfit hrm)
        have k1 : (3 : Int) ≤ ((m : Int) + 2) := by omega
        have k2 : ((m : Int) + 2) ≤ (ns : Int) := by omega
        have k3 : (0 : Int) ≤ (bn : Int) := by omega
        have k4 : (bn : Int) ≤ (ns : Int) - ((m : Int) + 2) := by omega
        have k5 : (13 : Int) ≤ (nw : Int) := by omega
        have k5n : 13 ≤ nw := by omega
        have hns := hs.2.1
        have ew : IntKind.i64.wrap ((ns : Int) - ((m : Int) + 2)) = (ns : Int) - ((m : Int) + 2) := by rw [IntKind.wrap_i64]; omega
        have e1 : (m : Int) + 2 - 2 = (m : Int) := by omega
        have e2 : (m : Int) * (nw : Int) = (t : Int) := by rw [← ht]; push_cast; rfl
        have e3 : IntKind.i64.wrap (t : Int) = (t : Int) := by rw [IntKind.wrap_i64]; omega
        have e4 : IntKind.i64.wrap (m : Int) = (m : Int) := by rw [IntKind.wrap_i64]; omega
        clear hs xp bp hM hMI hok hfit ht hml hrm
        by_cases hbig : 4096 < t
        · have hb2 : (4096 : Int) < (t : Int) := by omega
          go_enter Try.func3, Try.ntmps3
          go_wp2_with (first
            | (go_at_call 8; refine HNR.out.mono ?_; rintro e w1 ⟨bL, cL, bW, cW, rfl, b1⟩; have H1 := Lib.hid b1; clear b1)
            | (go_at_call 9; refine (HN.out _).mono ?_; rintro e w2 ⟨q, S, g, rfl, h2, l2, b2⟩; have H2 := Lib.hid (And.intro h2 (HB2.out _ _ _ _ H1.out b2)); have p20 := (HP.out w2 H2.out.2.2).1; have p21 := (HP.out w2 H2.out.2.2).2; clear h2 l2 b2)
            | fail)
          have hbn := bnew_ok H2.out.1 bn (m + 2) HF.out.1
          rw [show ((m + 2 : Nat) : Int) = (m : Int) + 2 by push_cast; rfl] at hbn
          refine hbn.mono ?_
          clear hbn
          rintro e w3 ⟨rfl, h3, b3⟩
          have H3 := Lib.hid (And.intro h3 (And.intro (H2.out.2.1.trans (b3.mono H2.out.2.1.size)) (H2.out.2.2.trans (b3.mono H2.out.2.2.size))))
          have p30 := (HP.out w3 H3.out.2.2).1
          have p31 := (HP.out w3 H3.out.2.2).2
          clear h3 b3
          go_wp2_with fail
          refine (bnew_nil _ _ _).mono ?_
          rintro e w4 ⟨rfl, rfl⟩
          have HRm := Lib.hid (fun (wx : World) (hx : Bk wx w2.heap.size q S g (Dev.fresh ns nw 9) bn (m + 2) false []) => (by have := room_any hx; rw [HF.out.2, Nat.min_eq_right (by omega)] at this; exact this : Calls Try.prog 14 #[.pointer (some ⟨w2.heap.size, 0, none⟩)] wx fun e w' => e = .returned (.int .i64 ((4096 : Nat) : Nat)) ∧ ∃ n, w' = wx.drewN n))
          go_wp2_with (first
            | (go_at_call 12; refine (open_any H3.out.1).mono ?_; rintro e w5 ⟨rfl, rfl⟩)
            | (go_at_call 13; refine (image_bad H3.out.1 (fresh_ok _ _ _ _)).mono ?_; rintro e w6 ⟨rfl, b6⟩; have H6 := Lib.hid (And.intro (H3.out.1.new b6) (H3.out.2.1.trans (b6.mono H3.out.2.1.size))); clear b6)
            | (go_at_call 14; refine (HRm.out _ H6.out.1).mono ?_; rintro e w7 ⟨rfl, n7, rfl⟩)
            | (go_at_call 15; refine (void_any (H6.out.1.dn n7)).mono ?_; rintro e w8 ⟨rfl, b8⟩; have H8 := Lib.hid (And.intro ((H6.out.1.dn n7).new b8) ((below_dn H6.out.2 n7).trans (b8.mono H6.out.2.size))); clear b8)
            | (go_at_call 16; refine (fresh_state H8.out.1).mono ?_; rintro e w9 ⟨tr, rfl, b9⟩; have H9 := Lib.hid (And.intro (H8.out.1.new b9) (H8.out.2.trans (b9.mono H8.out.2.size))); clear b9)
            | (go_at_call 17; refine (bworn_any H9.out.1).mono ?_; rintro e wA ⟨rfl, bA⟩; have HA := Lib.hid (H9.out.2.trans (bA.mono H9.out.2.size)); have fw := fresh_worn ns nw bn (m + 2); clear bA)
            | (go_at_call 11; refine (balive_any _).mono ?_; rintro e wB ⟨rfl, bB⟩; have HB := Lib.hid (HA.out.trans (bB.mono HA.out.size)); clear bB)
            | fail)
          go_ret
          exact ⟨rfl, HB.out⟩
        · have hb2 : ¬ (4096 : Int) < (t : Int) := by omega
          go_enter Try.func3, Try.ntmps3
          go_wp2_with (first
            | (go_at_call 8; refine HNR.out.mono ?_; rintro e w1 ⟨bL, cL, bW, cW, rfl, b1⟩; have H1 := Lib.hid b1; clear b1)
            | (go_at_call 9; refine (HN.out _).mono ?_; rintro e w2 ⟨q, S, g, rfl, h2, l2, b2⟩; have H2 := Lib.hid (And.intro h2 (HB2.out _ _ _ _ H1.out b2)); have p20 := (HP.out w2 H2.out.2.2).1; have p21 := (HP.out w2 H2.out.2.2).2; clear h2 l2 b2)
            | fail)
          have hbn := bnew_ok H2.out.1 bn (m + 2) HF.out.1
          rw [show ((m + 2 : Nat) : Int) = (m : Int) + 2 by push_cast; rfl] at hbn
          refine hbn.mono ?_
          clear hbn
          rintro e w3 ⟨rfl, h3, b3⟩
          have H3 := Lib.hid (And.intro h3 (And.intro (H2.out.2.1.trans (b3.mono H2.out.2.1.size)) (H2.out.2.2.trans (b3.mono H2.out.2.2.size))))
          have p30 := (HP.out w3 H3.out.2.2).1
          have p31 := (HP.out w3 H3.out.2.2).2
          clear h3 b3
          go_wp2_with fail
          refine (bnew_nil _ _ _).mono ?_
          rintro e w4 ⟨rfl, rfl⟩
          have HRm := Lib.hid (fun (wx : World) (hx : Bk wx w2.heap.size q S g (Dev.fresh ns nw 9) bn (m + 2) false []) => (by have := room_any hx; rw [HF.out.2, Nat.min_eq_left (by omega)] at this; exact this : Calls Try.prog 14 #[.pointer (some ⟨w2.heap.size, 0, none⟩)] wx fun e w' => e = .returned (.int .i64 (t : Nat)) ∧ ∃ n, w' = wx.drewN n))
          go_wp2_with (first
            | (go_at_call 12; refine (open_any H3.out.1).mono ?_; rintro e w5 ⟨rfl, rfl⟩)
            | (go_at_call 13; refine (image_bad H3.out.1 (fresh_ok _ _ _ _)).mono ?_; rintro e w6 ⟨rfl, b6⟩; have H6 := Lib.hid (And.intro (H3.out.1.new b6) (H3.out.2.1.trans (b6.mono H3.out.2.1.size))); clear b6)
            | (go_at_call 14; refine (HRm.out _ H6.out.1).mono ?_; rintro e w7 ⟨rfl, n7, rfl⟩)
            | (go_at_call 15; refine (void_any (H6.out.1.dn n7)).mono ?_; rintro e w8 ⟨rfl, b8⟩; have H8 := Lib.hid (And.intro ((H6.out.1.dn n7).new b8) ((below_dn H6.out.2 n7).trans (b8.mono H6.out.2.size))); clear b8)
            | (go_at_call 16; refine (fresh_state H8.out.1).mono ?_; rintro e w9 ⟨tr, rfl, b9⟩; have H9 := Lib.hid (And.intro (H8.out.1.new b9) (H8.out.2.trans (b9.mono H8.out.2.size))); clear b9)
            | (go_at_call 17; refine (bworn_any H9.out.1).mono ?_; rintro e wA ⟨rfl, bA⟩; have HA := Lib.hid (H9.out.2.trans (bA.mono H9.out.2.size)); have fw := fresh_worn ns nw bn (m + 2); clear bA)
            | (go_at_call 11; refine (balive_any _).mono ?_; rintro e wB ⟨rfl, bB⟩; have HB := Lib.hid (HA.out.trans (bB.mono HA.out.size)); clear bB)
            | fail)
          go_ret
          exact ⟨rfl, HB.out⟩
      · have HNO := Lib.hid hok
        have hs5 := hs
        have hMx := hMI
        clear hs xp bp hM hMI hok
        by_cases m1 : many < 3
        · have m1n : ¬ (3 : Int) ≤ many := by omega
          go_enter Try.func3, Try.ntmps3
          go_wp2_with (first
            | (go_at_call 8; refine HNR.out.mono ?_; rintro e w1 ⟨bL, cL, bW, cW, rfl, b1⟩; have H1 := Lib.hid b1; clear b1)
            | (go_at_call 9; refine (HN.out _).mono ?_; rintro e w2 ⟨q, S, g, rfl, h2, l2, b2⟩; have H2 := Lib.hid (And.intro h2 (HB2.out _ _ _ _ H1.out b2)); have p20 := (HP.out w2 H2.out.2.2).1; have p21 := (HP.out w2 H2.out.2.2).2; clear h2 l2 b2)
            | fail)
          refine (bnew_bad H2.out.1 base many hr.out.1 hr.out.2 HNO.out).mono ?_
          rintro e w3 ⟨rfl, rfl⟩
          go_wp2_with fail
          refine (bnew_nil base many _).mono ?_
          rintro e w4 ⟨rfl, rfl⟩
          go_wp2_with (first
            | (go_at_call 11; refine (balive_any _).mono ?_; rintro e w5 ⟨rfl, b5⟩; have H5 := Lib.hid (H2.out.2.1.trans (b5.mono H2.out.2.1.size)); clear b5)
            | fail)
          go_ret
          exact ⟨rfl, H5.out⟩
        · have m1n : (3 : Int) ≤ many := by omega
          by_cases m2 : (ns : Int) < many
          · have m2n : ¬ many ≤ (ns : Int) := by omega
            go_enter Try.func3, Try.ntmps3
            go_wp2_with (first
              | (go_at_call 8; refine HNR.out.mono ?_; rintro e w1 ⟨bL, cL, bW, cW, rfl, b1⟩; have H1 := Lib.hid b1; clear b1)
              | (go_at_call 9; refine (HN.out _).mono ?_; rintro e w2 ⟨q, S, g, rfl, h2, l2, b2⟩; have H2 := Lib.hid (And.intro h2 (HB2.out _ _ _ _ H1.out b2)); have p20 := (HP.out w2 H2.out.2.2).1; have p21 := (HP.out w2 H2.out.2.2).2; clear h2 l2 b2)
              | fail)
            refine (bnew_bad H2.out.1 base many hr.out.1 hr.out.2 HNO.out).mono ?_
            rintro e w3 ⟨rfl, rfl⟩
            go_wp2_with fail
            refine (bnew_nil base many _).mono ?_
            rintro e w4 ⟨rfl, rfl⟩
            go_wp2_with (first
              | (go_at_call 11; refine (balive_any _).mono ?_; rintro e w5 ⟨rfl, b5⟩; have H5 := Lib.hid (H2.out.2.1.trans (b5.mono H2.out.2.1.size)); clear b5)
              | fail)
            go_ret
            exact ⟨rfl, H5.out⟩
          · have m2n : many ≤ (ns : Int) := by omega
            by_cases m3 : base < 0
            · have m3n : ¬ 0 ≤ base := by omega
              go_enter Try.func3, Try.ntmps3
              go_wp2_with (first
                | (go_at_call 8; refine HNR.out.mono ?_; rintro e w1 ⟨bL, cL, bW, cW, rfl, b1⟩; have H1 := Lib.hid b1; clear b1)
                | (go_at_call 9; refine (HN.out _).mono ?_; rintro e w2 ⟨q, S, g, rfl, h2, l2, b2⟩; have H2 := Lib.hid (And.intro h2 (HB2.out _ _ _ _ H1.out b2)); have p20 := (HP.out w2 H2.out.2.2).1; have p21 := (HP.out w2 H2.out.2.2).2; clear h2 l2 b2)
                | fail)
              refine (bnew_bad H2.out.1 base many hr.out.1 hr.out.2 HNO.out).mono ?_
              rintro e w3 ⟨rfl, rfl⟩
              go_wp2_with fail
              refine (bnew_nil base many _).mono ?_
              rintro e w4 ⟨rfl, rfl⟩
              go_wp2_with (first
                | (go_at_call 11; refine (balive_any _).mono ?_; rintro e w5 ⟨rfl, b5⟩; have H5 := Lib.hid (H2.out.2.1.trans (b5.mono H2.out.2.1.size)); clear b5)
                | fail)
              go_ret
              exact ⟨rfl, H5.out⟩
            · have m3n : 0 ≤ base := by omega
              have hns := hs5.2.1
              have ew : IntKind.i64.wrap ((ns : Int) - many) = (ns : Int) - many := by rw [IntKind.wrap_i64]; omega
              by_cases m4 : (ns : Int) - many < base
              · have m4n : ¬ base ≤ (ns : Int) - many := by omega
                go_enter Try.func3, Try.ntmps3
                go_wp2_with (first
                  | (go_at_call 8; refine HNR.out.mono ?_; rintro e w1 ⟨bL, cL, bW, cW, rfl, b1⟩; have H1 := Lib.hid b1; clear b1)
                  | (go_at_call 9; refine (HN.out _).mono ?_; rintro e w2 ⟨q, S, g, rfl, h2, l2, b2⟩; have H2 := Lib.hid (And.intro h2 (HB2.out _ _ _ _ H1.out b2)); have p20 := (HP.out w2 H2.out.2.2).1; have p21 := (HP.out w2 H2.out.2.2).2; clear h2 l2 b2)
                  | fail)
                refine (bnew_bad H2.out.1 base many hr.out.1 hr.out.2 HNO.out).mono ?_
                rintro e w3 ⟨rfl, rfl⟩
                go_wp2_with fail
                refine (bnew_nil base many _).mono ?_
                rintro e w4 ⟨rfl, rfl⟩
                go_wp2_with (first
                  | (go_at_call 11; refine (balive_any _).mono ?_; rintro e w5 ⟨rfl, b5⟩; have H5 := Lib.hid (H2.out.2.1.trans (b5.mono H2.out.2.1.size)); clear b5)
                  | fail)
                go_ret
                exact ⟨rfl, H5.out⟩
              · have m4n : base ≤ (ns : Int) - many := by omega
                have m5 : nw < 13 := by have := HNO.out; omega
                have m5n : ¬ 13 ≤ nw := by omega
                have m5i : ¬ (13 : Int) ≤ (nw : Int) := by omega
                go_enter Try.func3, Try.ntmps3
                go_wp2_with (first
                  | (go_at_call 8; refine HNR.out.mono ?_; rintro e w1 ⟨bL, cL, bW, cW, rfl, b1⟩; have H1 := Lib.hid b1; clear b1)
                  | (go_at_call 9; refine (HN.out _).mono ?_; rintro e w2 ⟨q, S, g, rfl, h2, l2, b2⟩; have H2 := Lib.hid (And.intro h2 (HB2.out _ _ _ _ H1.out b2)); have p20 := (HP.out w2 H2.out.2.2).1; have p21 := (HP.out w2 H2.out.2.2).2; clear h2 l2 b2)
                  | fail)
                refine (bnew_bad H2.out.1 base many hr.out.1 hr.out.2 HNO.out).mono ?_
                rintro e w3 ⟨rfl, rfl⟩
                go_wp2_with fail
                refine (bnew_nil base many _).mono ?_
                rintro e w4 ⟨rfl, rfl⟩
                go_wp2_with (first
                  | (go_at_call 11; refine (balive_any _).mono ?_; rintro e w5 ⟨rfl, b5⟩; have H5 := Lib.hid (H2.out.2.1.trans (b5.mono H2.out.2.1.size)); clear b5)
                  | fail)
                go_ret
                exact ⟨rfl, H5.out⟩
  · have HNR := Lib.hid (newR_bad sec wds 9 (w.alloc (.cells #[.int .i64 base, .int .i64 many] 23)) hs)
    clear hs
    go_enter Try.func3, Try.ntmps3
    go_wp2_with (first
      | (go_at_call 8; refine HNR.out.mono ?_; rintro e w1 ⟨rfl, b1⟩; have H1 := Lib.hid b1; clear b1)
      | fail)
    go_ret
    exact ⟨rfl, (((Below.refl w.heap.size w).alloc (Nat.le_refl _) _).trans (H1.out.mono (by simp))).alloc (Nat.le_trans (by simp) H1.out.size) _⟩
end Go.Proofs.Ythpagbfabpfngaa
