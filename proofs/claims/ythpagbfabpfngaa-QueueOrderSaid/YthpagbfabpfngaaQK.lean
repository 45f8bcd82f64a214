/- The walk of QueuePlays. -/
import Derived.Test.YthpagbfabpfngaaQJ
namespace Go.Proofs.Ythpagbfabpfngaa
open Go.RowKit

set_option maxHeartbeats 16000000 in
set_option maxRecDepth 100000 in
theorem law_queue (c p : Int) (sp : Option Addr) (b off cap : Nat) (O : List OpQ) (w : World) (hlen : O.length ≤ 9223372036854775807) (hO : OpsQ w sp b off O) :
    Calls Try.prog 6 #[.agg #[.int .i64 c, .int .i64 p], .slice sp O.length cap] w fun e w' => e = .returned (.bool true) ∧ Below w.heap.size w w' := by
  have b1 : Below w.heap.size w (w.alloc (.cells #[.int .i64 c, .int .i64 p] 65)) := (Below.refl _ _).alloc (Nat.le_refl _) _
  by_cases hn : O.length ≤ 100
  case neg =>
    have d2 : (100 : Int) < (O.length : Int) := by omega
    have HB := Lib.hid b1
    clear hO b1
    go_enter Try.func6, Try.ntmps6
    go_wp2
    go_ret
    exact ⟨rfl, HB.out⟩
  have d1 : ¬ (100 : Int) < (O.length : Int) := by omega
  obtain ⟨w1, hw1⟩ : ∃ w1, w1 = w.alloc (.cells #[.int .i64 c, .int .i64 p] 65) := ⟨_, rfl⟩
  obtain ⟨z, hz⟩ : ∃ z, z = w.heap.size := ⟨_, rfl⟩
  rw [← hw1] at b1
  have hx : BoxAt w1 z [.int .i64 c, .int .i64 p] := by rw [hw1, hz]; exact BoxAt.mk_new w _ _
  have HX := Lib.hid (fun (wx : World) (hb : Below w1.heap.size w1 wx) => (And.intro ((hx.new hb).cell 0 _ rfl) ((hx.new hb).cell 1 _ rfl)))
  have HB := Lib.hid (fun (wx : World) (hb : Below w1.heap.size w1 wx) => (b1.trans (hb.mono b1.size) : Below w.heap.size w wx))
  obtain ⟨x0, x1⟩ := HX.out w1 (Below.refl _ _)
  have HRT := Lib.hid (fun (wx : World) => lright_any c p wx)
  have HW1 := Lib.hid (And.intro hw1 hz)
  cases hok : qOK c p with
  | false =>
    have HN := Lib.hid (fun (wx : World) => qnew_no c p hok wx)
    have HR := Lib.hid (fun (wx : World) => qright_any c p wx)
    rw [hok] at HRT HR
    clear hx hO b1 hw1 hz hok
    go_enter Try.func6, Try.ntmps6
    go_upto_region 1 with fail
    rw [← HW1.out.1, ← HW1.out.2]
    go_wp2_with (first
      | (go_at_call 25; refine (HN.out _).mono ?_; rintro e w2 ⟨rfl, b2⟩; have H2 := Lib.hid b2; obtain ⟨y0, y1⟩ := HX.out w2 b2; clear b2)
      | (go_at_call 26; refine (HRT.out _).mono ?_; rintro e w3 ⟨rfl, b3⟩; have H3 := Lib.hid (H2.out.trans (b3.mono H2.out.size)); obtain ⟨u0, u1⟩ := HX.out w3 H3.out; clear b3)
      | (go_at_call 27; refine (HR.out _).mono ?_; rintro e w4 ⟨rfl, b4⟩; have H4 := Lib.hid (H3.out.trans (b4.mono H3.out.size)); clear b4)
      | (go_at_call 28; refine (qalive_any _).mono ?_; rintro e w5 ⟨rfl, b5⟩; have H5 := Lib.hid (H4.out.trans (b5.mono H4.out.size)); clear b5)
      | fail)
    go_ret
    exact ⟨rfl, HB.out _ H5.out⟩
  | true =>
    obtain ⟨C, rfl⟩ : ∃ C : Nat, c = (C : Int) := ⟨c.toNat, by have : 1 ≤ c := by { unfold qOK at hok; exact (of_decide_eq_true hok).1 }; omega⟩
    have hcc : 1 ≤ (C : Int) ∧ (C : Int) ≤ 16 ∧ 1 ≤ p ∧ p ≤ 3 := by unfold qOK at hok; exact of_decide_eq_true hok
    have HN := Lib.hid (fun (wx : World) => qnew_yes C p hok wx)
    have HR := Lib.hid (fun (wx : World) => qright_any C p wx)
    have HST := Lib.hid (fun (wx : World) (q : Nat) (L : List Int) (d : Int) (h : QL wx q C p L d) => qset_any h)
    rw [hok] at HRT HR
    have HO := Lib.hid hO
    have HC := Lib.hid hcc
    have HZQ := Lib.hid (show ∀ (w3 : World) (q : Nat), Below w1.heap.size w1 w3 → w1.heap.size ≤ q → QL w3 q C p [] 0 → QS w w3 q C p [] 0 none 0 from fun w3 q hb hq hl => by
      have hz1 : w1.heap.size = z + 1 := by rw [hw1, hz]; simp
      exact ⟨hl, SI.none _ _, by rw [← hz]; exact hx.new hb, by rw [← hz]; omega, b1.trans (hb.mono b1.size)⟩)
    obtain ⟨NN, hN⟩ : ∃ N, N = O.length := ⟨_, rfl⟩
    have HNN := Lib.hid hN
    rw [← hN] at hlen hn d1 ⊢
    clear hx hO b1 hw1 hz hok hcc hN
    go_enter Try.func6, Try.ntmps6
    go_upto_region 1 with fail
    rw [← HW1.out.1, ← HW1.out.2]
    go_upto_region 6 with (first
      | (go_at_call 25; refine (HN.out _).mono ?_; rintro e w2 ⟨q, rfl, q2, hq, b2⟩; have H2 := Lib.hid (And.intro b2 (And.intro hq q2)); obtain ⟨y0, y1⟩ := HX.out w2 b2; clear b2 hq q2)
      | (go_at_call 26; refine (HRT.out _).mono ?_; rintro e w3 ⟨rfl, b3⟩; have H3 := Lib.hid (And.intro (H2.out.1.trans (b3.mono H2.out.1.size)) (And.intro H2.out.2.1 (H2.out.2.2.new b3))); obtain ⟨u0, u1⟩ := HX.out w3 H3.out.1; clear b3)
      | fail)
    clear x0 x1 y0 y1
    refine wp_region_held_drew (S := fun w' => w'.cell? ⟨z, 0, none⟩ = some (.int .i64 C) ∧ w'.cell? ⟨z, 1, none⟩ = some (.int .i64 p)) (by kernel_rfl) ⟨u0, u1⟩ (fun hS => ?_)
    refine wpAnyH_take (i := 0) (oi := { dst := some 41, op := .move (.tmp 5), type := 67, pos := "law.go:86", after := #[], guard := none }) (v := ?_) rfl (by kernel_rfl) (by kernel_rfl) (by kernel_rfl) (fun _ _ _ h => h) (Or.inl ⟨by rfl, ?_⟩) hS ?_
    rotate_left 1
    · intro w hw; obtain ⟨s0, s1⟩ := hw; go_simp; try (with_reducible rfl)
    simp only [Act.put, List.setIfInBounds_toArray, List.set_cons_zero, List.set_cons_succ]
    refine wpAnyH_take (i := 1) (oi := { dst := some 42, op := .binOp .eql 67 (.tmp 41) (.const (.pointer none)) 67, type := 4, pos := "law.go:86", after := #[{ on := 0, ground := .data }], guard := none }) (v := ?_) rfl (by kernel_rfl) (by kernel_rfl) (by kernel_rfl) (fun _ _ _ h => h) (Or.inl ⟨by rfl, ?_⟩) hS ?_
    rotate_left 1
    · intro w hw; obtain ⟨s0, s1⟩ := hw; go_simp; try (with_reducible rfl)
    simp only [Act.put, List.setIfInBounds_toArray, List.set_cons_zero, List.set_cons_succ]
    refine wpAnyH_take (i := 2) (oi := { dst := some 43, op := .move (.tmp 42), type := 4, pos := "law.go:86", after := #[{ on := 1, ground := .data }], guard := none }) (v := ?_) rfl (by kernel_rfl) (by kernel_rfl) (by kernel_rfl) (fun _ _ _ h => h) (Or.inl ⟨by rfl, ?_⟩) hS ?_
    rotate_left 1
    · intro w hw; obtain ⟨s0, s1⟩ := hw; go_simp; try (with_reducible rfl)
    simp only [Act.put, List.setIfInBounds_toArray, List.set_cons_zero, List.set_cons_succ]
    refine wpAnyH_take (i := 3) (oi := { dst := some 44, op := .move (.tmp 6), type := 32, pos := "law.go:86", after := #[{ on := 2, ground := .guard }], guard := some (2, false) }) (v := ?_) rfl (by kernel_rfl) (by kernel_rfl) (by kernel_rfl) (fun _ _ _ h => h) (Or.inl ⟨by rfl, ?_⟩) hS ?_
    rotate_left 1
    · intro w hw; obtain ⟨s0, s1⟩ := hw; go_simp; try (with_reducible rfl)
    simp only [Act.put, List.setIfInBounds_toArray, List.set_cons_zero, List.set_cons_succ]
    refine wpAnyH_take (i := 4) (oi := { dst := some 45, op := .binOp .neq 32 (.tmp 44) (.const (.int .i64 0)) 32, type := 4, pos := "law.go:86", after := #[{ on := 3, ground := .data }, { on := 2, ground := .guard }], guard := some (2, false) }) (v := ?_) rfl (by kernel_rfl) (by kernel_rfl) (by kernel_rfl) (fun _ _ _ h => h) (Or.inl ⟨by rfl, ?_⟩) hS ?_
    rotate_left 1
    · intro w hw; obtain ⟨s0, s1⟩ := hw; go_simp; try (with_reducible rfl)
    simp only [Act.put, List.setIfInBounds_toArray, List.set_cons_zero, List.set_cons_succ]
    refine wpAnyH_take (i := 5) (oi := { dst := some 46, op := .pick (.tmp 43) (.const (.bool true)) (.tmp 45), type := 4, pos := "law.go:86", after := #[{ on := 2, ground := .data }, { on := 4, ground := .data }], guard := none }) (v := ?_) rfl (by kernel_rfl) (by kernel_rfl) (by kernel_rfl) (fun _ _ _ h => h) (Or.inl ⟨by rfl, ?_⟩) hS ?_
    rotate_left 1
    · intro w hw; obtain ⟨s0, s1⟩ := hw; go_simp; try (with_reducible rfl)
    simp only [Act.put, List.setIfInBounds_toArray, List.set_cons_zero, List.set_cons_succ]
    refine wpAnyH_take (i := 6) (oi := { dst := some 47, op := .move (.tmp 46), type := 4, pos := "law.go:86", after := #[{ on := 5, ground := .data }, { on := 2, ground := .chain }], guard := none }) (v := ?_) rfl (by kernel_rfl) (by kernel_rfl) (by kernel_rfl) (fun _ _ _ h => h) (Or.inl ⟨by rfl, ?_⟩) hS ?_
    rotate_left 1
    · intro w hw; obtain ⟨s0, s1⟩ := hw; go_simp; try (with_reducible rfl)
    simp only [Act.put, List.setIfInBounds_toArray, List.set_cons_zero, List.set_cons_succ]
    refine wpAnyH_take (i := 7) (oi := { dst := some 48, op := .load 65 (.tmp 2), type := 65, pos := "law.go:86", after := #[{ on := 6, ground := .guard }], guard := some (6, false) }) (v := ?_) rfl (by kernel_rfl) (by kernel_rfl) (by kernel_rfl) (fun _ _ _ h => h) (Or.inl ⟨by rfl, ?_⟩) hS ?_
    rotate_left 1
    · intro w hw; obtain ⟨s0, s1⟩ := hw; go_simp; try (with_reducible rfl)
    simp only [Act.put, List.setIfInBounds_toArray, List.set_cons_zero, List.set_cons_succ]
    refine wpAnyH_ready (rs := [8]) (by kernel_rfl) (by simp) (AllReadyH.cons (o := { dst := some 49, op := .call { callee := .value (.func 27), args := #[.tmp 48], argTypes := #[65] }, type := 4, pos := "law.go:86", after := #[{ on := 7, ground := .data }, { on := 6, ground := .chain }, { on := 6, ground := .guard }], guard := some (6, false) }) rfl (fun K hK => ?_) AllReadyH.nil)
    go_simp
    go_at_call 27
    refine (HR.out _).mono ?_
    rintro e w4 ⟨rfl, b4⟩
    have H4 := Lib.hid (And.intro (H3.out.1.trans ((Below.refl _ w3).drew.trans (b4.mono H3.out.1.size))) (And.intro H3.out.2.1 ((H3.out.2.2.dn 1).new b4)))
    obtain ⟨v0, v1⟩ := HX.out w4 H4.out.1
    clear b4
    try dsimp only
    refine hK.out _ _ ⟨v0, v1⟩ (fun hHeld => ?_)
    clear hK K
    try simp only [Act.put, List.setIfInBounds_toArray, List.set_cons_zero, List.set_cons_succ]
    refine wpAnyH_take (i := 9) (oi := { dst := some 50, op := .unOp .not 4 (.tmp 49), type := 4, pos := "law.go:86", after := #[{ on := 8, ground := .data }, { on := 6, ground := .guard }], guard := some (6, false) }) (v := ?_) rfl (by kernel_rfl) (by kernel_rfl) (by kernel_rfl) (fun _ _ _ h => h) (Or.inl ⟨by rfl, ?_⟩) ⟨v0, v1⟩ ?_
    rotate_left 1
    · intro w hw; obtain ⟨s0, s1⟩ := hw; go_simp; try (with_reducible rfl)
    simp only [Act.put, List.setIfInBounds_toArray, List.set_cons_zero, List.set_cons_succ]
    refine wpAnyH_take (i := 10) (oi := { dst := some 51, op := .pick (.tmp 47) (.const (.bool true)) (.tmp 50), type := 4, pos := "law.go:86", after := #[{ on := 6, ground := .data }, { on := 9, ground := .data }], guard := none }) (v := ?_) rfl (by kernel_rfl) (by kernel_rfl) (by kernel_rfl) (fun _ _ _ h => h) (Or.inl ⟨by rfl, ?_⟩) ⟨v0, v1⟩ ?_
    rotate_left 1
    · intro w hw; obtain ⟨s0, s1⟩ := hw; go_simp; try (with_reducible rfl)
    simp only [Act.put, List.setIfInBounds_toArray, List.set_cons_zero, List.set_cons_succ]
    refine wpAnyH_take (i := 11) (oi := { dst := some 52, op := .move (.tmp 51), type := 4, pos := "law.go:86", after := #[{ on := 10, ground := .data }, { on := 8, ground := .chain }], guard := none }) (v := ?_) rfl (by kernel_rfl) (by kernel_rfl) (by kernel_rfl) (fun _ _ _ h => h) (Or.inl ⟨by rfl, ?_⟩) ⟨v0, v1⟩ ?_
    rotate_left 1
    · intro w hw; obtain ⟨s0, s1⟩ := hw; go_simp; try (with_reducible rfl)
    simp only [Act.put, List.setIfInBounds_toArray, List.set_cons_zero, List.set_cons_succ]
    refine wpAnyH_take (i := 12) (oi := { dst := some 53, op := .move (.tmp 5), type := 67, pos := "law.go:86", after := #[{ on := 11, ground := .guard }], guard := some (11, false) }) (v := ?_) rfl (by kernel_rfl) (by kernel_rfl) (by kernel_rfl) (fun _ _ _ h => h) (Or.inl ⟨by rfl, ?_⟩) ⟨v0, v1⟩ ?_
    rotate_left 1
    · intro w hw; obtain ⟨s0, s1⟩ := hw; go_simp; try (with_reducible rfl)
    simp only [Act.put, List.setIfInBounds_toArray, List.set_cons_zero, List.set_cons_succ]
    refine wpAnyH_take (i := 14) (oi := { dst := some 55, op := .load 65 (.tmp 2), type := 65, pos := "law.go:86", after := #[{ on := 11, ground := .guard }], guard := some (11, false) }) (v := ?_) rfl (by kernel_rfl) (by kernel_rfl) (by kernel_rfl) (fun _ _ _ h => h) (Or.inl ⟨by rfl, ?_⟩) ⟨v0, v1⟩ ?_
    rotate_left 1
    · intro w hw; obtain ⟨s0, s1⟩ := hw; go_simp; try (with_reducible rfl)
    simp only [Act.put, List.setIfInBounds_toArray, List.set_cons_zero, List.set_cons_succ]
    refine wpAnyH_ready (rs := [13]) (by kernel_rfl) (by simp) (AllReadyH.cons (o := { dst := some 54, op := .call { callee := .value (.func 29), args := #[.tmp 53], argTypes := #[67] }, type := 65, pos := "law.go:86", after := #[{ on := 12, ground := .data }, { on := 11, ground := .chain }, { on := 11, ground := .guard }], guard := some (11, false) }) rfl (fun K hK => ?_) AllReadyH.nil)
    go_simp
    go_at_call 29
    refine (HST.out _ _ _ _ H4.out.2.2).mono ?_
    rintro e w5 ⟨rfl, b5⟩
    have H5 := Lib.hid (And.intro (H4.out.1.trans (b5.mono H4.out.1.size)) (And.intro H4.out.2.1 (H4.out.2.2.new b5)))
    obtain ⟨t0, t1⟩ := HX.out w5 H5.out.1
    clear b5
    try dsimp only
    refine hK.out _ _ ⟨t0, t1⟩ (fun hHeld => ?_)
    clear hK K
    try simp only [Act.put, List.setIfInBounds_toArray, List.set_cons_zero, List.set_cons_succ]
    refine wpAnyH_take (i := 15) (oi := { dst := some 56, op := .binOp .neq 65 (.tmp 54) (.tmp 55) 65, type := 4, pos := "law.go:86", after := #[{ on := 13, ground := .data }, { on := 14, ground := .data }, { on := 11, ground := .guard }], guard := some (11, false) }) (v := ?_) rfl (by kernel_rfl) (by kernel_rfl) (by kernel_rfl) (fun _ _ _ h => h) (Or.inl ⟨by rfl, ?_⟩) ⟨t0, t1⟩ ?_
    rotate_left 1
    · intro w hw; obtain ⟨s0, s1⟩ := hw; go_simp; try (with_reducible rfl)
    simp only [Act.put, List.setIfInBounds_toArray, List.set_cons_zero, List.set_cons_succ]
    refine wpAnyH_take (i := 16) (oi := { dst := some 57, op := .pick (.tmp 52) (.const (.bool true)) (.tmp 56), type := 4, pos := "law.go:86", after := #[{ on := 11, ground := .data }, { on := 15, ground := .data }], guard := none }) (v := ?_) rfl (by kernel_rfl) (by kernel_rfl) (by kernel_rfl) (fun _ _ _ h => h) (Or.inl ⟨by rfl, ?_⟩) ⟨t0, t1⟩ ?_
    rotate_left 1
    · intro w hw; obtain ⟨s0, s1⟩ := hw; go_simp; try (with_reducible rfl)
    simp only [Act.put, List.setIfInBounds_toArray, List.set_cons_zero, List.set_cons_succ]
    refine wpAnyH_done (by kernel_rfl) ?_ _

    clear u0 u1 v0 v1 t0 t1
    go_wp2
    have HQ0 := Lib.hid (HZQ.out _ _ H5.out.1 H5.out.2.1 H5.out.2.2)
    go_loopg [7, 8, 9] NN (fun gh s7 s8 s9 wr => ∃ (k : Nat) (L : List Int) (d : Nat) (sp' : Option Addr) (cap' : Nat), k + gh = NN ∧ d ≤ 31 * k ∧ L.length ≤ C ∧ s7 = .slice sp' L.length cap' ∧ s8 = .int .i64 d ∧ s9 = .int .i64 k ∧ Aside (QS w wr q C p L d sp' cap'))
    case atStart => exact ⟨0, [], 0, none, 0, by omega, by omega, by simp, rfl, rfl, rfl, HQ0.out⟩
    case round =>
      obtain ⟨k, L, d, sp', cap', hkg, hd, hLC, rfl, rfl, rfl, HR⟩ := hrel
      cases gk with
      | zero =>
        obtain rfl : k = NN := by omega
        go_wp2_with (go_at_call 28; refine (qalive_any _).mono ?_; rintro e w6 ⟨rfl, b6⟩; have H6 := Lib.hid (HR.out.be.trans (b6.mono HR.out.be.size)); clear b6)
        go_ret
        exact ⟨rfl, H6.out⟩
      | succ g1 =>
        have hlt : k < NN := by omega
        have hk9 : k ≤ 100 := by omega
        have hkO : k < O.length := by rw [← HNN.out]; exact hlt
        obtain ⟨c0, c1, c2, hX⟩ := HO.out.at_ HR.out.be k hkO
        obtain ⟨rfl, -⟩ := HO.out.1 (Nat.lt_of_le_of_lt (Nat.zero_le _) hkO)
        have hXl := (HO.out.2 k hkO).2.2.2.2
        have HOa := Lib.hid (show ∀ wx, Below w.heap.size w wx → wx.cell? ⟨b, off + k * 3, none⟩ = some (.int .i64 (opQ O k).k) ∧ wx.cell? ⟨b, off + k * 3 + 1, none⟩ = some (.int .i64 (opQ O k).n) ∧ wx.cell? ⟨b, off + k * 3 + 2, none⟩ = some (.slice (opQ O k).sp (opQ O k).x.length (opQ O k).cap) ∧ SI (fun j => w.heap.size ≤ j) wx (opQ O k).sp (opQ O k).cap (opQ O k).x from fun wx hb => HO.out.at_ hb k hkO)
        obtain ⟨⟨K, N, spX, capX, X⟩, hop⟩ : ∃ o, opQ O k = o := ⟨_, rfl⟩
        rw [hop] at c0 c1 c2 hX HOa hXl
        dsimp only at c0 c1 c2 hX HOa hXl
        have HX9 := Lib.hid hX
        clear hop hX hkO
        have i0 : (0 : Int) ≤ (k : Int) := by omega
        have i1 : (k : Int) < (NN : Int) := by omega
        obtain ⟨m, hm⟩ : ∃ m, m = X.length := ⟨_, rfl⟩
        have HM := Lib.hid hm
        rw [← hm] at c2 HOa hXl
        clear hm
        by_cases hX30 : 30 < m
        · have hX30' : (30 : Int) < (m : Int) := by omega
          go_wp2
          go_ret
          exact ⟨rfl, HR.out.be⟩
        · have hX30' : ¬ (30 : Int) < (m : Int) := by omega
          have hC := HC.out
          obtain ⟨x, hx, xx0, xx1, hy⟩ := kd5_parts K _ rfl
          have HK5 := Lib.hid (And.intro hx hy)
          have hsz := HR.out.ql.lt
          have HSA := Lib.hid (show ∀ wx, QS w wx q C p L d sp' cap' → Calls Try.prog 30 #[.agg #[.int .i64 C, .int .i64 p], .slice sp' L.length cap', .agg #[.int .i64 K, .int .i64 N, .slice spX m capX]] wx (StepR (fun j => j = q) wx (stepM C p L K N X)) from fun wx hq => by
            have := step_any (X := X) (spX := spX) (capX := capX) C p K N hq.s ((HOa.out wx hq.be).2.2.2.mono (fun j hj => by have := hq.ge; omega)) (fun j hj => by have := hq.ql.lt; omega) (by omega) (by rw [← HM.out]; omega) (by omega)
            rwa [← HM.out] at this)
          have hYC := stepM_len C (by omega) p L K N X hLC
          obtain ⟨⟨Y, f, a, g⟩, hr⟩ : ∃ r, stepM C p L K N X = r := ⟨_, rfl⟩
          have HST := Lib.hid hr
          rw [hr] at HSA hYC
          dsimp only at hYC
          clear hr hx hy hsz hC
          obtain ⟨ln, hln⟩ : ∃ ln, ln = L.length := ⟨_, rfl⟩
          have HLn := Lib.hid hln
          rw [← hln] at HSA hLC ⊢
          clear hln
          go_upto_region 15 with fail
          obtain ⟨u0, u1⟩ := And.intro (HR.out.box.cell 0 _ rfl) (HR.out.box.cell 1 _ rfl)
          rw [← HW1.out.2] at u0 u1
          refine wp_region_held_drew (S := fun w' => w'.cell? ⟨z, 0, none⟩ = some (.int .i64 C) ∧ w'.cell? ⟨z, 1, none⟩ = some (.int .i64 p) ∧ w'.cell? ⟨b, off + k * 3, none⟩ = some (.int .i64 K) ∧ w'.cell? ⟨b, off + k * 3 + 1, none⟩ = some (.int .i64 N) ∧ w'.cell? ⟨b, off + k * 3 + 2, none⟩ = some (.slice spX m capX)) (by kernel_rfl) ⟨u0, u1, c0, c1, c2⟩ (fun hS => ?_)
          refine wpAnyH_take (i := 0) (oi := { dst := some 72, op := .load 65 (.tmp 2), type := 65, pos := "law.go:95", after := #[], guard := none }) (v := ?_) rfl (by kernel_rfl) (by kernel_rfl) (by kernel_rfl) (fun _ _ _ h => h) (Or.inl ⟨by rfl, ?_⟩) hS ?_
          rotate_left 1
          · intro w hw; obtain ⟨s0, s1, s2, s3, s4⟩ := hw; go_simp; try (with_reducible rfl)
          simp only [Act.put, List.setIfInBounds_toArray, List.set_cons_zero, List.set_cons_succ]
          refine wpAnyH_take (i := 1) (oi := { dst := some 73, op := .move (.tmp 7), type := 25, pos := "law.go:95", after := #[], guard := none }) (v := ?_) rfl (by kernel_rfl) (by kernel_rfl) (by kernel_rfl) (fun _ _ _ h => h) (Or.inl ⟨by rfl, ?_⟩) hS ?_
          rotate_left 1
          · intro w hw; obtain ⟨s0, s1, s2, s3, s4⟩ := hw; go_simp; try (with_reducible rfl)
          simp only [Act.put, List.setIfInBounds_toArray, List.set_cons_zero, List.set_cons_succ]
          refine wpAnyH_take (i := 2) (oi := { dst := some 74, op := .move (.tmp 1), type := 66, pos := "law.go:95", after := #[], guard := none }) (v := ?_) rfl (by kernel_rfl) (by kernel_rfl) (by kernel_rfl) (fun _ _ _ h => h) (Or.inl ⟨by rfl, ?_⟩) hS ?_
          rotate_left 1
          · intro w hw; obtain ⟨s0, s1, s2, s3, s4⟩ := hw; go_simp; try (with_reducible rfl)
          simp only [Act.put, List.setIfInBounds_toArray, List.set_cons_zero, List.set_cons_succ]
          refine wpAnyH_take (i := 3) (oi := { dst := some 75, op := .move (.tmp 9), type := 3, pos := "law.go:95", after := #[], guard := none }) (v := ?_) rfl (by kernel_rfl) (by kernel_rfl) (by kernel_rfl) (fun _ _ _ h => h) (Or.inl ⟨by rfl, ?_⟩) hS ?_
          rotate_left 1
          · intro w hw; obtain ⟨s0, s1, s2, s3, s4⟩ := hw; go_simp; try (with_reducible rfl)
          simp only [Act.put, List.setIfInBounds_toArray, List.set_cons_zero, List.set_cons_succ]
          refine wpAnyH_take (i := 4) (oi := { dst := some 76, op := .indexAddr 66 (.tmp 74) (.tmp 75), type := 0, pos := "law.go:95", after := #[{ on := 2, ground := .data }, { on := 3, ground := .data }], guard := none }) (v := ?_) rfl (by kernel_rfl) (by kernel_rfl) (by kernel_rfl) (fun _ _ _ h => h) (Or.inl ⟨by rfl, ?_⟩) hS ?_
          rotate_left 1
          · intro w hw; obtain ⟨s0, s1, s2, s3, s4⟩ := hw; go_simp; try (with_reducible rfl)
          simp only [Act.put, List.setIfInBounds_toArray, List.set_cons_zero, List.set_cons_succ]
          refine wpAnyH_take (i := 5) (oi := { dst := some 77, op := .load 73 (.tmp 76), type := 73, pos := "law.go:95", after := #[{ on := 4, ground := .data }], guard := none }) (v := ?_) rfl (by kernel_rfl) (by kernel_rfl) (by kernel_rfl) (fun _ _ _ h => h) (Or.inl ⟨by rfl, ?_⟩) hS ?_
          rotate_left 1
          · intro w hw; obtain ⟨s0, s1, s2, s3, s4⟩ := hw; go_simp; try (with_reducible rfl)
          simp only [Act.put, List.setIfInBounds_toArray, List.set_cons_zero, List.set_cons_succ]
          refine wpAnyH_ready (rs := [6]) (by kernel_rfl) (by simp) (AllReadyH.cons (o := { dst := some 78, op := .call { callee := .value (.func 30), args := #[.tmp 72, .tmp 73, .tmp 77], argTypes := #[65, 25, 73] }, type := 74, pos := "law.go:95", after := #[{ on := 0, ground := .data }, { on := 1, ground := .data }, { on := 5, ground := .data }], guard := none }) rfl (fun K hK => ?_) AllReadyH.nil)
          go_simp
          go_at_call 30
          refine (HSA.out _ (HR.out.dn 1)).mono ?_
          rintro e w5 ⟨sp5, cap5, rfl, s5, b5⟩
          have H5 := Lib.hid ((HR.out.dn 1).row b5 s5)
          obtain ⟨v0, v1⟩ := And.intro (H5.out.2.2.1.cell 0 _ rfl) (H5.out.2.2.1.cell 1 _ rfl)
          obtain ⟨o0, o1, o2, -⟩ := HOa.out _ H5.out.2.2.2.2
          rw [← HW1.out.2] at v0 v1
          clear s5 b5
          try dsimp only
          refine hK.out _ _ ⟨v0, v1, o0, o1, o2⟩ (fun hHeld => ?_)
          clear hK K
          try simp only [Act.put, List.setIfInBounds_toArray, List.set_cons_zero, List.set_cons_succ]
          refine wpAnyH_take (i := 7) (oi := { dst := some 71, op := .move (.tmp 78), type := 74, pos := "law.go:95", after := #[{ on := 6, ground := .data }], guard := none }) (v := ?_) rfl (by kernel_rfl) (by kernel_rfl) (by kernel_rfl) (fun _ _ _ h => h) (Or.inl ⟨by rfl, ?_⟩) ⟨v0, v1, o0, o1, o2⟩ ?_
          rotate_left 1
          · intro w hw; obtain ⟨s0, s1, s2, s3, s4⟩ := hw; go_simp; try (with_reducible rfl)
          simp only [Act.put, List.setIfInBounds_toArray, List.set_cons_zero, List.set_cons_succ]
          refine wpAnyH_take (i := 8) (oi := { dst := some 79, op := .extract (.tmp 71) 0, type := 25, pos := "law.go:95", after := #[{ on := 7, ground := .data }], guard := none }) (v := ?_) rfl (by kernel_rfl) (by kernel_rfl) (by kernel_rfl) (fun _ _ _ h => h) (Or.inl ⟨by rfl, ?_⟩) ⟨v0, v1, o0, o1, o2⟩ ?_
          rotate_left 1
          · intro w hw; obtain ⟨s0, s1, s2, s3, s4⟩ := hw; go_simp; try (with_reducible rfl)
          simp only [Act.put, List.setIfInBounds_toArray, List.set_cons_zero, List.set_cons_succ]
          refine wpAnyH_take (i := 9) (oi := { dst := some 80, op := .extract (.tmp 71) 1, type := 3, pos := "law.go:95", after := #[{ on := 7, ground := .data }, { on := 12, ground := .gcOnly Go.Departure.lateStores }], guard := none }) (v := ?_) rfl (by kernel_rfl) (by kernel_rfl) (by kernel_rfl) (fun _ _ _ h => h) (Or.inl ⟨by rfl, ?_⟩) ⟨v0, v1, o0, o1, o2⟩ ?_
          rotate_left 1
          · intro w hw; obtain ⟨s0, s1, s2, s3, s4⟩ := hw; go_simp; try (with_reducible rfl)
          simp only [Act.put, List.setIfInBounds_toArray, List.set_cons_zero, List.set_cons_succ]
          refine wpAnyH_take (i := 10) (oi := { dst := some 81, op := .extract (.tmp 71) 2, type := 3, pos := "law.go:95", after := #[{ on := 7, ground := .data }, { on := 13, ground := .gcOnly Go.Departure.lateStores }], guard := none }) (v := ?_) rfl (by kernel_rfl) (by kernel_rfl) (by kernel_rfl) (fun _ _ _ h => h) (Or.inl ⟨by rfl, ?_⟩) ⟨v0, v1, o0, o1, o2⟩ ?_
          rotate_left 1
          · intro w hw; obtain ⟨s0, s1, s2, s3, s4⟩ := hw; go_simp; try (with_reducible rfl)
          simp only [Act.put, List.setIfInBounds_toArray, List.set_cons_zero, List.set_cons_succ]
          refine wpAnyH_take (i := 11) (oi := { dst := some 82, op := .extract (.tmp 71) 3, type := 3, pos := "law.go:95", after := #[{ on := 7, ground := .data }, { on := 14, ground := .gcOnly Go.Departure.lateStores }], guard := none }) (v := ?_) rfl (by kernel_rfl) (by kernel_rfl) (by kernel_rfl) (fun _ _ _ h => h) (Or.inl ⟨by rfl, ?_⟩) ⟨v0, v1, o0, o1, o2⟩ ?_
          rotate_left 1
          · intro w hw; obtain ⟨s0, s1, s2, s3, s4⟩ := hw; go_simp; try (with_reducible rfl)
          simp only [Act.put, List.setIfInBounds_toArray, List.set_cons_zero, List.set_cons_succ]
          refine wpAnyH_take (i := 12) (oi := { dst := some 10, op := .assign (.tmp 79), type := 25, pos := "law.go:95", after := #[{ on := 8, ground := .data }, { on := 6, ground := .chain }, { on := 0, ground := .phase }, { on := 1, ground := .phase }, { on := 2, ground := .phase }, { on := 3, ground := .phase }, { on := 4, ground := .phase }, { on := 5, ground := .phase }, { on := 6, ground := .phase }, { on := 7, ground := .phase }, { on := 8, ground := .phase }, { on := 9, ground := .textOnly Go.Departure.lateStores }, { on := 10, ground := .textOnly Go.Departure.lateStores }, { on := 11, ground := .textOnly Go.Departure.lateStores }], guard := none }) (v := ?_) rfl (by kernel_rfl) (by kernel_rfl) (by kernel_rfl) (fun _ _ _ h => h) (Or.inl ⟨by rfl, ?_⟩) ⟨v0, v1, o0, o1, o2⟩ ?_
          rotate_left 1
          · intro w hw; obtain ⟨s0, s1, s2, s3, s4⟩ := hw; go_simp; try (with_reducible rfl)
          simp only [Act.put, List.setIfInBounds_toArray, List.set_cons_zero, List.set_cons_succ]
          refine wpAnyH_take (i := 13) (oi := { dst := some 11, op := .assign (.tmp 80), type := 3, pos := "law.go:95", after := #[{ on := 9, ground := .data }, { on := 12, ground := .chain }, { on := 0, ground := .phase }, { on := 1, ground := .phase }, { on := 2, ground := .phase }, { on := 3, ground := .phase }, { on := 4, ground := .phase }, { on := 5, ground := .phase }, { on := 6, ground := .phase }, { on := 7, ground := .phase }, { on := 8, ground := .phase }, { on := 9, ground := .phase }, { on := 10, ground := .textOnly Go.Departure.lateStores }, { on := 11, ground := .textOnly Go.Departure.lateStores }, { on := 12, ground := .phase }], guard := none }) (v := ?_) rfl (by kernel_rfl) (by kernel_rfl) (by kernel_rfl) (fun _ _ _ h => h) (Or.inl ⟨by rfl, ?_⟩) ⟨v0, v1, o0, o1, o2⟩ ?_
          rotate_left 1
          · intro w hw; obtain ⟨s0, s1, s2, s3, s4⟩ := hw; go_simp; try (with_reducible rfl)
          simp only [Act.put, List.setIfInBounds_toArray, List.set_cons_zero, List.set_cons_succ]
          refine wpAnyH_take (i := 14) (oi := { dst := some 12, op := .assign (.tmp 81), type := 3, pos := "law.go:95", after := #[{ on := 10, ground := .data }, { on := 13, ground := .chain }, { on := 0, ground := .phase }, { on := 1, ground := .phase }, { on := 2, ground := .phase }, { on := 3, ground := .phase }, { on := 4, ground := .phase }, { on := 5, ground := .phase }, { on := 6, ground := .phase }, { on := 7, ground := .phase }, { on := 8, ground := .phase }, { on := 9, ground := .phase }, { on := 10, ground := .phase }, { on := 11, ground := .textOnly Go.Departure.lateStores }, { on := 12, ground := .phase }, { on := 13, ground := .phase }], guard := none }) (v := ?_) rfl (by kernel_rfl) (by kernel_rfl) (by kernel_rfl) (fun _ _ _ h => h) (Or.inl ⟨by rfl, ?_⟩) ⟨v0, v1, o0, o1, o2⟩ ?_
          rotate_left 1
          · intro w hw; obtain ⟨s0, s1, s2, s3, s4⟩ := hw; go_simp; try (with_reducible rfl)
          simp only [Act.put, List.setIfInBounds_toArray, List.set_cons_zero, List.set_cons_succ]
          refine wpAnyH_take (i := 15) (oi := { dst := some 13, op := .assign (.tmp 82), type := 3, pos := "law.go:95", after := #[{ on := 11, ground := .data }, { on := 14, ground := .chain }, { on := 0, ground := .phase }, { on := 1, ground := .phase }, { on := 2, ground := .phase }, { on := 3, ground := .phase }, { on := 4, ground := .phase }, { on := 5, ground := .phase }, { on := 6, ground := .phase }, { on := 7, ground := .phase }, { on := 8, ground := .phase }, { on := 9, ground := .phase }, { on := 10, ground := .phase }, { on := 11, ground := .phase }, { on := 12, ground := .phase }, { on := 13, ground := .phase }, { on := 14, ground := .phase }], guard := none }) (v := ?_) rfl (by kernel_rfl) (by kernel_rfl) (by kernel_rfl) (fun _ _ _ h => h) (Or.inl ⟨by rfl, ?_⟩) ⟨v0, v1, o0, o1, o2⟩ ?_
          rotate_left 1
          · intro w hw; obtain ⟨s0, s1, s2, s3, s4⟩ := hw; go_simp; try (with_reducible rfl)
          simp only [Act.put, List.setIfInBounds_toArray, List.set_cons_zero, List.set_cons_succ]
          refine wpAnyH_done (by kernel_rfl) ?_ _

          obtain ⟨o0, o1, o2, oX⟩ := HOa.out _ H5.out.2.2.2.2
          have HoX := Lib.hid (oX.mono (T' := fun j => j = q) (fun j hj => by have := H5.out.2.2.2.1; omega))
          obtain ⟨kk, hkk⟩ : ∃ kk, kd5 K = kk := ⟨_, rfl⟩
          obtain ⟨hx, hy⟩ := HK5.out
          rw [hkk] at hy
          have HKK := Lib.hid hkk
          have HCC := Lib.hid (And.intro HC.out (show (d : Int) ≤ 3100 from by omega))
          clear u0 u1 c0 c1 c2 hkk oX
          go_upto_block 2 with fail
          go_cut [14, 15] from 58 to 146 (fun s14 s15 wx => s14 = .int .i64 a ∧ s15 = .int .i64 f ∧ Aside (QS w wx q C p Y (d + g) sp5 cap5 ∧ 0 ≤ g ∧ g ≤ 30))
          case first =>
            by_cases k3 : kk = 3
            · subst k3
              have hq5 := H5.out.1
              cases L with
              | nil =>
                have e := (stepM_take0 C p K N X HKK.out).symm.trans HST.out
                simp only [Prod.mk.injEq] at e
                obtain ⟨rfl, rfl, rfl, rfl⟩ := e
                have HT := Lib.hid (take_none hq5)
                have HQ6 := Lib.hid (QS.turn H5.out (Ch.refl _ _) hq5)
                clear hq5
                go_wp2_with (go_at_call 31; refine HT.out.mono ?_; rintro e w6 ⟨rfl, rfl⟩)
                go_meet
                case rel => exact ⟨rfl, rfl, by simpa using HQ6.out, by omega, by omega⟩
              | cons y0 L' =>
                have e := (stepM_take1 C p y0 L' K N X HKK.out).symm.trans HST.out
                simp only [Prod.mk.injEq] at e
                obtain ⟨rfl, rfl, rfl, rfl⟩ := e
                have HT := Lib.hid (take_some hq5)
                clear hq5
                go_wp2_with (go_at_call 31; refine HT.out.mono ?_; rintro e w6 ⟨rfl, q6, c6⟩; have HQ6 := Lib.hid (QS.turn H5.out c6 q6); clear q6 c6)
                go_meet
                case rel => exact ⟨rfl, rfl, by simpa using HQ6.out, by omega, by omega⟩
            · by_cases k4 : kk = 4
              · subst k4
                obtain ⟨g', hg0, hg1, e1, e2⟩ := stepM_fill C (by have := HC.out; omega) p L K N X (by rw [← HLn.out]; exact hLC) d (by omega) (by have := HCC.out; rw [← HM.out]; omega) HKK.out
                have e := e1.symm.trans HST.out
                simp only [Prod.mk.injEq] at e
                obtain ⟨rfl, rfl, rfl, rfl⟩ := e
                have HF := Lib.hid (show ∀ wx, Below w5.heap.size w5 wx → ∀ Bs, wx.cell? ⟨Bs, 0, none⟩ = some (.slice spX m capX) → Calls Try.prog 32 #[.pointer (some ⟨q, 0, none⟩), .func (.func 70) #[] #[.pointer (some ⟨Bs, 0, none⟩)]] wx fun e w' => e = .returned (.int .i64 g') ∧ QL w' q C p (lastL (L ++ X) C) (d + g') ∧ Ch (fun j => j = q) wx w' from fun wx hb Bs hs => by
                  have := fillv_any (H5.out.1.new hb) (HoX.out.new hb) (by rw [← HM.out]; exact hXl) Bs (by rw [← HM.out]; exact hs)
                  rwa [e2] at this)
                have HG := Lib.hid (And.intro hg0 (show g' ≤ 30 by rw [← HM.out] at hg1; omega))
                have HV := Lib.hid (values_any (.slice spX m capX) spX m capX rfl w5)
                have HAl := Lib.hid (show Below w5.heap.size w5 (w5.alloc (.cells #[.slice spX m capX] 25)) ∧ (w5.alloc (.cells #[.slice spX m capX] 25)).cell? ⟨w5.heap.size, 0, none⟩ = some (.slice spX m capX) from ⟨(Below.refl _ _).alloc (Nat.le_refl _) _, by simp [go_sem]⟩)
                clear e1 e2 hg0 hg1 k3
                go_wp2_with (first
                  | (go_at_call 33; refine HV.out.mono ?_; rintro e w6 ⟨rfl, rfl⟩)
                  | (go_at_call 32; refine (HF.out _ HAl.out.1 _ HAl.out.2).mono ?_; rintro e w7 ⟨rfl, q7, c7⟩; have HQ7 := Lib.hid (QS.turn (sp := sp5) (cap := cap5) ⟨H5.out.1.new HAl.out.1, H5.out.2.1.new HAl.out.1, H5.out.2.2.1.new HAl.out.1, H5.out.2.2.2.1, H5.out.2.2.2.2.trans (HAl.out.1.mono H5.out.2.2.2.2.size)⟩ c7 q7); clear q7 c7)
                  | fail)
                go_meet
                case rel => exact ⟨rfl, rfl, HQ7.out, HG.out.1, HG.out.2⟩
              · obtain ⟨Y', f', g', hg0, hg1, e1, e2⟩ := stepM_send C (by have := HC.out; omega) p HC.out.2.2 L K N X (by rw [← HLn.out]; exact hLC) d (by have := HCC.out; omega) (by rw [HKK.out]; exact k3) (by rw [HKK.out]; exact k4)
                have e := e1.symm.trans HST.out
                simp only [Prod.mk.injEq] at e
                obtain ⟨rfl, rfl, rfl, rfl⟩ := e
                have HSd := Lib.hid (show Calls Try.prog 34 #[.pointer (some ⟨q, 0, none⟩), .int .i64 N] w5 fun e w' => e = .returned (.int .i64 f') ∧ QL w' q C p Y' (d + g') ∧ Ch (fun j => j = q) w5 w' from by
                  have := send_any H5.out.1 N
                  rwa [e2] at this)
                have HG := Lib.hid (And.intro hg0 (show g' ≤ 30 by omega))
                clear e1 e2 hg0 hg1
                go_wp2_with (go_at_call 34; refine HSd.out.mono ?_; rintro e w7 ⟨rfl, q7, c7⟩; have HQ7 := Lib.hid (QS.turn H5.out c7 q7); clear q7 c7)
                go_meet
                case rel => exact ⟨rfl, rfl, HQ7.out, HG.out.1, HG.out.2⟩
          case rest =>
            obtain ⟨rfl, rfl, HQ0'⟩ := hcut
            obtain ⟨G, rfl⟩ : ∃ G : Nat, g = (G : Int) := ⟨g.toNat, by have := HQ0'.out.2.1; omega⟩
            have HQ1 := Lib.hid HQ0'.out.1
            have hG30 : G ≤ 30 := by have := HQ0'.out.2.2; omega
            have hd31 : d ≤ 3100 := by omega
            have hG0 : (0 : Int) ≤ (G : Int) := by omega
            clear HQ0'
            have HE := Lib.hid (show ∀ (wx : World) (s6 : Option Addr) (c6 : Nat), SI (fun _ => False) wx s6 c6 Y → SI (fun j => j = q) wx sp5 cap5 Y → Calls Try.prog 37 #[.slice s6 Y.length c6, .slice sp5 Y.length cap5] wx fun e w' => e = .returned (.bool true) ∧ ∃ n, w' = wx.drewN n from fun wx s6 c6 h1 h2 => by
              have hC := HC.out
              have := eqInts_any h1 h2 (by omega) (by omega)
              rwa [decide_eq_true rfl] at this)
            go_wp2_with (first
              | (go_at_call 35; refine (qlen_any HQ1.out.ql).mono ?_; rintro e w6 ⟨rfl, rfl⟩)
              | (go_at_call 36; refine (qdropped_any HQ1.out.ql).mono ?_; rintro e w6 ⟨rfl, rfl⟩)
              | (go_at_call 38; refine (list_any HQ1.out.ql).mono ?_; rintro e w6 ⟨sp6, cap6, rfl, o6, b6⟩; have H6 := Lib.hid (And.intro (SI.of_own (T := fun _ => False) o6 rfl (fun _ h => h.elim)) (HQ1.out.new b6)); clear o6 b6)
              | (go_at_call 37; refine (HE.out _ _ _ H6.out.1 H6.out.2.s).mono ?_; rintro e w7 ⟨rfl, n7, rfl⟩)
              | fail)
            go_roundg g1
            case measure => omega
            case rel => exact ⟨k + 1, Y, d + G, sp5, cap5, by omega, by omega, hYC, rfl, by push_cast; rfl, by go_num, by have := H6.out.2.dn n7; push_cast; exact this⟩
end Go.Proofs.Ythpagbfabpfngaa
