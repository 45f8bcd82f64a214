/- Several texts in one: HH. -/
import Derived.Test.YthpagbfabpfngaaPk10
/- The contracts of the reference's At, two and Read. -/
namespace Go.Proofs.Ythpagbfabpfngaa
open Go.RowKit

theorem eq_b (x y : BitVec 32) : (w32 x == w32 y) = (x == y) := by
  rw [Bool.eq_iff_iff, beq_iff_eq, beq_iff_eq, w32_inj]
theorem refat_any (n b off cap : Nat) (sp : Option Addr) (l : Nat → BitVec 32) (w : World) (h : Ws w sp b off n l) (k : Nat) :
    Calls Try.prog 96 #[.slice sp n cap, .int .i64 k] w fun e w' => e = .returned (.int .u32 (w32 (atW n l k))) ∧ w = w' := by
  unfold atW
  by_cases hk : k < n
  · obtain ⟨rfl, _⟩ := h.sp (by omega)
    have hc := h.cell k hk
    have h0 : (0 : Int) ≤ (k : Int) := by omega
    rw [if_pos hk]
    clear h
    go_enter Try.func96, Try.ntmps96
    go_wp2
    go_ret
    exact ⟨rfl, rfl⟩
  · rw [if_neg hk, w32_ones]
    clear h
    go_enter Try.func96, Try.ntmps96
    go_wp2
    go_ret
    exact ⟨rfl, rfl⟩
theorem two_any (n b off cap : Nat) (sp : Option Addr) (l : Nat → BitVec 32) (w : World) (h : Ws w sp b off n l) (k j : Nat) (hj : j = k + 1) (hk : k < 100) :
    Calls Try.prog 101 #[.slice sp n cap, .int .i64 k] w fun e w' => e = .returned (.bool (atW n l j == ~~~atW n l k)) ∧ w = w' := by
  have hw : IntKind.i64.wrap ((k : Int) + 1) = ((j : Nat) : Int) := by rw [IntKind.wrap_i64, hj]; omega
  have H1 := Lib.hid (refat_any n b off cap sp l w h j)
  have H0 := Lib.hid (refat_any n b off cap sp l w h k)
  have HO := fun x => Lib.hid (refother_any x w)
  have he := eq_b (atW n l j) (~~~atW n l k)
  clear h hj
  go_enter Try.func101, Try.ntmps101
  go_wp2_with fail
  refine H1.out.mono ?_
  rintro e w1 ⟨rfl, rfl⟩
  go_wp2_with fail
  refine H0.out.mono ?_
  rintro e w1 ⟨rfl, rfl⟩
  go_wp2_with fail
  refine (HO _).out.mono ?_
  rintro e w1 ⟨rfl, rfl⟩
  go_wp2
  go_ret
  exact ⟨rfl, rfl⟩
theorem valid_ref (H : Nat → BitVec 32) : validH H = ((H 1 == ~~~H 0) && ((H 3 == ~~~H 2) && ((H 5 == ~~~H 4) && ((H 7 == ~~~H 6) && H 6 == comW)))) := by
  unfold validH
  congr 3
  cases h : (H 6 == comW)
  · simp
  · have : H 6 = comW := by simpa using h
    rw [this]; simp
theorem conf_ref (H : Nat → BitVec 32) : confH H = (validH H && ((H 9 == ~~~H 8) && H 8 == conW)) := by
  unfold confH
  congr 1
  cases h : (H 8 == conW)
  · simp
  · have : H 8 = conW := by simpa using h
    rw [this]; simp

set_option maxHeartbeats 8000000 in
set_option maxRecDepth 100000 in
theorem refread_any (n b off cap : Nat) (sp : Option Addr) (l : Nat → BitVec 32) (w : World) (h : Ws w sp b off n l) :
    Calls Try.prog 63 #[.slice sp n cap] w fun e w' => e = .returned (.agg #[.int .u32 (w32 (headH (atW n l) 0)), .int .u32 (w32 (headH (atW n l) 2)), .int .u32 (w32 (headH (atW n l) 4)), .bool (validH (atW n l)), .bool (confH (atW n l)), .int .i64 (trC (atW n l) 3 : Nat)]) ∧ Below w.heap.size w w' := by
  obtain ⟨r, hr⟩ : ∃ r, r = w.heap.size := ⟨_, rfl⟩
  obtain ⟨w1, hw1⟩ : ∃ w1, w1 = w.alloc (.cells #[.int .u32 0, .int .u32 0, .int .u32 0, .bool false, .bool false, .int .i64 0] 120) := ⟨_, rfl⟩
  obtain ⟨w2, hw2⟩ : ∃ w2, w2 = w1.alloc (.cells #[.int .u32 0, .int .u32 0, .int .u32 0, .bool false, .bool false, .int .i64 0] 120) := ⟨_, rfl⟩
  have s1 : w1.heap.size = r + 1 := by rw [hw1, hr]; simp
  have x1 : RowAt w1 r 120 #[.int .u32 0, .int .u32 0, .int .u32 0, .bool false, .bool false, .int .i64 0] := by rw [hw1, hr]; exact RowAt.mk w _ _
  have x2 : RowAt w2 (r + 1) 120 #[.int .u32 0, .int .u32 0, .int .u32 0, .bool false, .bool false, .int .i64 0] := by rw [hw2, ← s1]; exact RowAt.mk w1 _ _
  have x3 : RowAt w2 r 120 #[.int .u32 0, .int .u32 0, .int .u32 0, .bool false, .bool false, .int .i64 0] := by rw [hw2]; exact x1.new ((Below.refl w1.heap.size w1).alloc (Nat.le_refl _) _)
  have b2 : Below r w w2 := by rw [hw2, hw1, hr]; exact ((Below.refl _ _).alloc (Nat.le_refl _) _).alloc (by simp) _
  have HW := Lib.hid (show ∀ wz, Below r w wz → Ws wz sp b off n l from fun wz hz => h.below hz (fun h0 => by rw [hr]; exact (h.sp h0).2))
  have H2 := Lib.hid (And.intro x2 (And.intro x3 (And.intro b2 hr)))
  obtain ⟨H, hH⟩ : ∃ H, atW n l = H := ⟨_, rfl⟩
  have HA := Lib.hid (show ∀ wz, Below r w wz → ∀ k : Nat, Calls Try.prog 96 #[.slice sp n cap, .int .i64 k] wz fun e w' => e = .returned (.int .u32 (w32 (H k))) ∧ wz = w' from fun wz hz k => by rw [← hH]; exact refat_any n b off cap sp l wz (HW.out wz hz) k)
  have HT := Lib.hid (show ∀ wz, Below r w wz → ∀ k j : Nat, j = k + 1 → k < 100 → Calls Try.prog 101 #[.slice sp n cap, .int .i64 k] wz fun e w' => e = .returned (.bool (H j == ~~~H k)) ∧ wz = w' from fun wz hz k j hj hk => by rw [← hH]; exact two_any n b off cap sp l wz (HW.out wz hz) k j hj hk)
  rw [hH, ← hr]
  clear h x1 x2 x3 b2 hH
  have c2 := fun j => H2.out.1.cell j
  have d0 : w2.cell? ⟨r + 1, 0, none⟩ = some (.int .u32 0) := c2 0
  have d1 : w2.cell? ⟨r + 1, 1, none⟩ = some (.int .u32 0) := c2 1
  have d2 : w2.cell? ⟨r + 1, 2, none⟩ = some (.int .u32 0) := c2 2
  have d3 : w2.cell? ⟨r + 1, 3, none⟩ = some (.bool false) := c2 3
  have d4 : w2.cell? ⟨r + 1, 4, none⟩ = some (.bool false) := c2 4
  have d5 : w2.cell? ⟨r + 1, 5, none⟩ = some (.int .i64 0) := c2 5
  have f2 := fun j => H2.out.1.fr j
  have f0 := f2 0
  have f1 := f2 1
  have f2' := f2 2
  have f3 := f2 3
  have f4 := f2 4
  have f5 := f2 5
  have ec := comW_int
  have eo := conW_int
  have q6 := eq_b (H 6) comW
  have q8 := eq_b (H 8) conW
  rw [← ec] at q6
  rw [← eo] at q8
  clear c2 f2 ec eo
  have HTR := Lib.hid (trC_le H)
  cases h0 : (H 1 == ~~~H 0) with
  | false =>
    have HV := Lib.hid (show validH H = false by rw [valid_ref]; simp only [h0, Bool.false_and])
    have HCF := Lib.hid (show confH H = false by rw [conf_ref, HV.out]; rfl)
    go_enter Try.func63, Try.ntmps63
    go_upto_region 2 with fail
    rw [← hw1, ← hw2, ← hr]
    clear hw1 hw2 hr s1
    go_wp2_with fail
    refine (HT.out _ H2.out.2.2.1 0 1 rfl (by decide)).mono ?_
    rintro e w9 ⟨rfl, rfl⟩
    go_upto_region 8 with fail
    have X8 : RowAt ((w2.setCell ⟨r + 1, 3, none⟩ (.bool false)).setCell ⟨r + 1, 4, none⟩ (.bool false)) (r + 1) 120 #[.int .u32 0, .int .u32 0, .int .u32 0, .bool false, .bool false, .int .i64 0] := (heap_setCell_same _ (r + 1) 4 _ _ (.bool false) (heap_setCell_same _ (r + 1) 3 _ _ (.bool false) H2.out.1))
    have Y8 : RowAt ((w2.setCell ⟨r + 1, 3, none⟩ (.bool false)).setCell ⟨r + 1, 4, none⟩ (.bool false)) r 120 #[.int .u32 0, .int .u32 0, .int .u32 0, .bool false, .bool false, .int .i64 0] := by
      have hc : Ch (fun j => j = r + 1) w2 ((w2.setCell ⟨r + 1, 3, none⟩ (.bool false)).setCell ⟨r + 1, 4, none⟩ (.bool false)) := (((Ch.refl (fun j => j = r + 1) w2).setCell ⟨r + 1, 3, none⟩ (.bool false) (.inl rfl)).setCell ⟨r + 1, 4, none⟩ (.bool false) (.inl rfl))
      exact hc.obj H2.out.2.1 (by omega)
    have B8 : Below r w ((w2.setCell ⟨r + 1, 3, none⟩ (.bool false)).setCell ⟨r + 1, 4, none⟩ (.bool false)) := ((H2.out.2.2.1.setCell (Nat.le_succ r) _).setCell (Nat.le_succ r) _)
    have H8 := Lib.hid (show RowAt ((w2.setCell ⟨r + 1, 3, none⟩ (.bool false)).setCell ⟨r + 1, 4, none⟩ (.bool false)) (r + 1) 120 #[.int .u32 0, .int .u32 0, .int .u32 0, .bool false, .bool false, .int .i64 0] ∧ RowAt ((w2.setCell ⟨r + 1, 3, none⟩ (.bool false)).setCell ⟨r + 1, 4, none⟩ (.bool false)) r 120 #[.int .u32 0, .int .u32 0, .int .u32 0, .bool false, .bool false, .int .i64 0] ∧ Below r w ((w2.setCell ⟨r + 1, 3, none⟩ (.bool false)).setCell ⟨r + 1, 4, none⟩ (.bool false)) from ⟨X8, Y8, B8⟩)
    clear X8 Y8 B8 q6 q8 d0 d1 d2 d3 d4 d5 f0 f1 f2' f3 f4 f5
    generalize (w2.setCell ⟨r + 1, 3, none⟩ (.bool false)).setCell ⟨r + 1, 4, none⟩ (.bool false) = w8 at H8 ⊢
    go_wp2
    go_loopg [4] 3 (fun g i wr => ∃ (k : Nat), k + g = 3 ∧ i = .int .i64 (10 + k : Nat) ∧ Aside (RowAt wr (r + 1) 120 #[.int .u32 0, .int .u32 0, .int .u32 0, .bool false, .bool false, .int .i64 (trC H k : Nat)] ∧ RowAt wr r 120 #[.int .u32 0, .int .u32 0, .int .u32 0, .bool false, .bool false, .int .i64 0] ∧ Below r w wr))
    case atStart => exact ⟨0, by omega, rfl, H8.out⟩
    case round =>
      obtain ⟨k, hkg, rfl, HR⟩ := hrel
      have x5 : wr.cell? ⟨r + 1, 5, none⟩ = some (.int .i64 (trC H k : Nat)) := HR.out.1.cell 5
      have g5 := HR.out.1.fr 5
      cases gk with
      | zero =>
        obtain rfl : k = 3 := by omega
        clear x5 g5
        go_wp2_with (first
          | (refine wpList_load_row rfl 120 (.tmp 3) rfl (r + 1) rfl 120 #[.int .u32 0, .int .u32 0, .int .u32 0, .bool false, .bool false, .int .i64 (trC H 3 : Nat)] (0, 0) _ HR.out.1 Try.underlying120 rfl (by kernel_rfl) ?_)
          | (refine wpList_store_row rfl 120 (.tmp 2) (.tmp 61) rfl r #[.int .u32 0, .int .u32 0, .int .u32 0, .bool false, .bool false, .int .i64 (trC H 3 : Nat)] rfl rfl 120 _ HR.out.2.1 (by kernel_rfl) rfl (state_one _ _ _ _ _ _) ?_)
          | fail)
        refine bodyPost_ret (results_cell_row rfl _ _ r 120 #[.int .u32 0, .int .u32 0, .int .u32 0, .bool false, .bool false, .int .i64 (trC H 3 : Nat)] (0, 0) _ rfl (RowAt.put HR.out.2.1) Try.underlying120 rfl (by kernel_rfl)) rfl ?_
        refine ⟨?_, below_setRow HR.out.2.2 (Nat.le_refl r) _⟩
        rw [HCF.out, show headH H 0 = _ from if_neg (by rw [HV.out]; decide), show headH H 2 = _ from if_neg (by rw [HV.out]; decide), show headH H 4 = _ from if_neg (by rw [HV.out]; decide), HV.out]
        rfl
      | succ g1 =>
        have hlt : k < 3 := by omega
        have ho := ones_nb (H (10 + k))
        have hl := HTR.out k
        have hw : IntKind.i64.wrap ((trC H k : Nat) + 1) = ((trC H k + 1 : Nat) : Int) := by rw [IntKind.wrap_i64]; omega
        have hlt13 : ((10 + k : Nat) : Int) < 13 := by omega
        cases hb : (H (10 + k) == BitVec.allOnes 32) with
        | true =>
          rw [hb] at ho
          have HTT := Lib.hid (show trC H (k + 1) = trC H k from if_pos hb)
          clear hb hl hw
          go_wp2_with fail
          refine (HA.out _ HR.out.2.2 (10 + k)).mono ?_
          rintro e w9 ⟨rfl, rfl⟩
          go_wp2
          go_roundg g1
          case measure => omega
          case rel => exact ⟨k + 1, by omega, by go_num, by rw [HTT.out]; exact HR.out⟩
        | false =>
          rw [hb] at ho
          have HTT := Lib.hid (show trC H (k + 1) = trC H k + 1 from if_neg (by rw [hb]; decide))
          clear hb hl
          go_wp2_with fail
          refine (HA.out _ HR.out.2.2 (10 + k)).mono ?_
          rintro e w9 ⟨rfl, rfl⟩
          go_wp2
          go_roundg g1
          case measure => omega
          case rel =>
            refine ⟨k + 1, by omega, by go_num, ?_, ?_, ?_⟩
            · rw [HTT.out]
              exact heap_setCell_same _ (r + 1) 5 _ _ (.int .i64 ((trC H k + 1 : Nat) : Int)) HR.out.1
            · exact ((Ch.refl (fun j => j = r + 1) _).setCell ⟨r + 1, 5, none⟩ _ (.inl rfl)).obj HR.out.2.1 (by omega)
            · exact HR.out.2.2.setCell (Nat.le_succ r) _
  | true =>
  cases h2 : (H 3 == ~~~H 2) with
  | false =>
    have HV := Lib.hid (show validH H = false by rw [valid_ref]; simp only [h2, Bool.false_and, Bool.and_false])
    have HCF := Lib.hid (show confH H = false by rw [conf_ref, HV.out]; rfl)
    go_enter Try.func63, Try.ntmps63
    go_upto_region 2 with fail
    rw [← hw1, ← hw2, ← hr]
    clear hw1 hw2 hr s1
    go_wp2_with fail
    refine (HT.out _ H2.out.2.2.1 0 1 rfl (by decide)).mono ?_
    rintro e w9 ⟨rfl, rfl⟩
    go_wp2_with fail
    refine (HT.out _ H2.out.2.2.1 2 3 rfl (by decide)).mono ?_
    rintro e w9 ⟨rfl, rfl⟩
    go_upto_region 8 with fail
    have X8 : RowAt ((w2.setCell ⟨r + 1, 3, none⟩ (.bool false)).setCell ⟨r + 1, 4, none⟩ (.bool false)) (r + 1) 120 #[.int .u32 0, .int .u32 0, .int .u32 0, .bool false, .bool false, .int .i64 0] := (heap_setCell_same _ (r + 1) 4 _ _ (.bool false) (heap_setCell_same _ (r + 1) 3 _ _ (.bool false) H2.out.1))
    have Y8 : RowAt ((w2.setCell ⟨r + 1, 3, none⟩ (.bool false)).setCell ⟨r + 1, 4, none⟩ (.bool false)) r 120 #[.int .u32 0, .int .u32 0, .int .u32 0, .bool false, .bool false, .int .i64 0] := by
      have hc : Ch (fun j => j = r + 1) w2 ((w2.setCell ⟨r + 1, 3, none⟩ (.bool false)).setCell ⟨r + 1, 4, none⟩ (.bool false)) := (((Ch.refl (fun j => j = r + 1) w2).setCell ⟨r + 1, 3, none⟩ (.bool false) (.inl rfl)).setCell ⟨r + 1, 4, none⟩ (.bool false) (.inl rfl))
      exact hc.obj H2.out.2.1 (by omega)
    have B8 : Below r w ((w2.setCell ⟨r + 1, 3, none⟩ (.bool false)).setCell ⟨r + 1, 4, none⟩ (.bool false)) := ((H2.out.2.2.1.setCell (Nat.le_succ r) _).setCell (Nat.le_succ r) _)
    have H8 := Lib.hid (show RowAt ((w2.setCell ⟨r + 1, 3, none⟩ (.bool false)).setCell ⟨r + 1, 4, none⟩ (.bool false)) (r + 1) 120 #[.int .u32 0, .int .u32 0, .int .u32 0, .bool false, .bool false, .int .i64 0] ∧ RowAt ((w2.setCell ⟨r + 1, 3, none⟩ (.bool false)).setCell ⟨r + 1, 4, none⟩ (.bool false)) r 120 #[.int .u32 0, .int .u32 0, .int .u32 0, .bool false, .bool false, .int .i64 0] ∧ Below r w ((w2.setCell ⟨r + 1, 3, none⟩ (.bool false)).setCell ⟨r + 1, 4, none⟩ (.bool false)) from ⟨X8, Y8, B8⟩)
    clear X8 Y8 B8 q6 q8 d0 d1 d2 d3 d4 d5 f0 f1 f2' f3 f4 f5
    generalize (w2.setCell ⟨r + 1, 3, none⟩ (.bool false)).setCell ⟨r + 1, 4, none⟩ (.bool false) = w8 at H8 ⊢
    go_wp2
    go_loopg [4] 3 (fun g i wr => ∃ (k : Nat), k + g = 3 ∧ i = .int .i64 (10 + k : Nat) ∧ Aside (RowAt wr (r + 1) 120 #[.int .u32 0, .int .u32 0, .int .u32 0, .bool false, .bool false, .int .i64 (trC H k : Nat)] ∧ RowAt wr r 120 #[.int .u32 0, .int .u32 0, .int .u32 0, .bool false, .bool false, .int .i64 0] ∧ Below r w wr))
    case atStart => exact ⟨0, by omega, rfl, H8.out⟩
    case round =>
      obtain ⟨k, hkg, rfl, HR⟩ := hrel
      have x5 : wr.cell? ⟨r + 1, 5, none⟩ = some (.int .i64 (trC H k : Nat)) := HR.out.1.cell 5
      have g5 := HR.out.1.fr 5
      cases gk with
      | zero =>
        obtain rfl : k = 3 := by omega
        clear x5 g5
        go_wp2_with (first
          | (refine wpList_load_row rfl 120 (.tmp 3) rfl (r + 1) rfl 120 #[.int .u32 0, .int .u32 0, .int .u32 0, .bool false, .bool false, .int .i64 (trC H 3 : Nat)] (0, 0) _ HR.out.1 Try.underlying120 rfl (by kernel_rfl) ?_)
          | (refine wpList_store_row rfl 120 (.tmp 2) (.tmp 61) rfl r #[.int .u32 0, .int .u32 0, .int .u32 0, .bool false, .bool false, .int .i64 (trC H 3 : Nat)] rfl rfl 120 _ HR.out.2.1 (by kernel_rfl) rfl (state_one _ _ _ _ _ _) ?_)
          | fail)
        refine bodyPost_ret (results_cell_row rfl _ _ r 120 #[.int .u32 0, .int .u32 0, .int .u32 0, .bool false, .bool false, .int .i64 (trC H 3 : Nat)] (0, 0) _ rfl (RowAt.put HR.out.2.1) Try.underlying120 rfl (by kernel_rfl)) rfl ?_
        refine ⟨?_, below_setRow HR.out.2.2 (Nat.le_refl r) _⟩
        rw [HCF.out, show headH H 0 = _ from if_neg (by rw [HV.out]; decide), show headH H 2 = _ from if_neg (by rw [HV.out]; decide), show headH H 4 = _ from if_neg (by rw [HV.out]; decide), HV.out]
        rfl
      | succ g1 =>
        have hlt : k < 3 := by omega
        have ho := ones_nb (H (10 + k))
        have hl := HTR.out k
        have hw : IntKind.i64.wrap ((trC H k : Nat) + 1) = ((trC H k + 1 : Nat) : Int) := by rw [IntKind.wrap_i64]; omega
        have hlt13 : ((10 + k : Nat) : Int) < 13 := by omega
        cases hb : (H (10 + k) == BitVec.allOnes 32) with
        | true =>
          rw [hb] at ho
          have HTT := Lib.hid (show trC H (k + 1) = trC H k from if_pos hb)
          clear hb hl hw
          go_wp2_with fail
          refine (HA.out _ HR.out.2.2 (10 + k)).mono ?_
          rintro e w9 ⟨rfl, rfl⟩
          go_wp2
          go_roundg g1
          case measure => omega
          case rel => exact ⟨k + 1, by omega, by go_num, by rw [HTT.out]; exact HR.out⟩
        | false =>
          rw [hb] at ho
          have HTT := Lib.hid (show trC H (k + 1) = trC H k + 1 from if_neg (by rw [hb]; decide))
          clear hb hl
          go_wp2_with fail
          refine (HA.out _ HR.out.2.2 (10 + k)).mono ?_
          rintro e w9 ⟨rfl, rfl⟩
          go_wp2
          go_roundg g1
          case measure => omega
          case rel =>
            refine ⟨k + 1, by omega, by go_num, ?_, ?_, ?_⟩
            · rw [HTT.out]
              exact heap_setCell_same _ (r + 1) 5 _ _ (.int .i64 ((trC H k + 1 : Nat) : Int)) HR.out.1
            · exact ((Ch.refl (fun j => j = r + 1) _).setCell ⟨r + 1, 5, none⟩ _ (.inl rfl)).obj HR.out.2.1 (by omega)
            · exact HR.out.2.2.setCell (Nat.le_succ r) _
  | true =>
  cases h4 : (H 5 == ~~~H 4) with
  | false =>
    have HV := Lib.hid (show validH H = false by rw [valid_ref]; simp only [h4, Bool.false_and, Bool.and_false])
    have HCF := Lib.hid (show confH H = false by rw [conf_ref, HV.out]; rfl)
    go_enter Try.func63, Try.ntmps63
    go_upto_region 2 with fail
    rw [← hw1, ← hw2, ← hr]
    clear hw1 hw2 hr s1
    go_wp2_with fail
    refine (HT.out _ H2.out.2.2.1 0 1 rfl (by decide)).mono ?_
    rintro e w9 ⟨rfl, rfl⟩
    go_wp2_with fail
    refine (HT.out _ H2.out.2.2.1 2 3 rfl (by decide)).mono ?_
    rintro e w9 ⟨rfl, rfl⟩
    go_wp2_with fail
    refine (HT.out _ H2.out.2.2.1 4 5 rfl (by decide)).mono ?_
    rintro e w9 ⟨rfl, rfl⟩
    go_upto_region 8 with fail
    have X8 : RowAt ((w2.setCell ⟨r + 1, 3, none⟩ (.bool false)).setCell ⟨r + 1, 4, none⟩ (.bool false)) (r + 1) 120 #[.int .u32 0, .int .u32 0, .int .u32 0, .bool false, .bool false, .int .i64 0] := (heap_setCell_same _ (r + 1) 4 _ _ (.bool false) (heap_setCell_same _ (r + 1) 3 _ _ (.bool false) H2.out.1))
    have Y8 : RowAt ((w2.setCell ⟨r + 1, 3, none⟩ (.bool false)).setCell ⟨r + 1, 4, none⟩ (.bool false)) r 120 #[.int .u32 0, .int .u32 0, .int .u32 0, .bool false, .bool false, .int .i64 0] := by
      have hc : Ch (fun j => j = r + 1) w2 ((w2.setCell ⟨r + 1, 3, none⟩ (.bool false)).setCell ⟨r + 1, 4, none⟩ (.bool false)) := (((Ch.refl (fun j => j = r + 1) w2).setCell ⟨r + 1, 3, none⟩ (.bool false) (.inl rfl)).setCell ⟨r + 1, 4, none⟩ (.bool false) (.inl rfl))
      exact hc.obj H2.out.2.1 (by omega)
    have B8 : Below r w ((w2.setCell ⟨r + 1, 3, none⟩ (.bool false)).setCell ⟨r + 1, 4, none⟩ (.bool false)) := ((H2.out.2.2.1.setCell (Nat.le_succ r) _).setCell (Nat.le_succ r) _)
    have H8 := Lib.hid (show RowAt ((w2.setCell ⟨r + 1, 3, none⟩ (.bool false)).setCell ⟨r + 1, 4, none⟩ (.bool false)) (r + 1) 120 #[.int .u32 0, .int .u32 0, .int .u32 0, .bool false, .bool false, .int .i64 0] ∧ RowAt ((w2.setCell ⟨r + 1, 3, none⟩ (.bool false)).setCell ⟨r + 1, 4, none⟩ (.bool false)) r 120 #[.int .u32 0, .int .u32 0, .int .u32 0, .bool false, .bool false, .int .i64 0] ∧ Below r w ((w2.setCell ⟨r + 1, 3, none⟩ (.bool false)).setCell ⟨r + 1, 4, none⟩ (.bool false)) from ⟨X8, Y8, B8⟩)
    clear X8 Y8 B8 q6 q8 d0 d1 d2 d3 d4 d5 f0 f1 f2' f3 f4 f5
    generalize (w2.setCell ⟨r + 1, 3, none⟩ (.bool false)).setCell ⟨r + 1, 4, none⟩ (.bool false) = w8 at H8 ⊢
    go_wp2
    go_loopg [4] 3 (fun g i wr => ∃ (k : Nat), k + g = 3 ∧ i = .int .i64 (10 + k : Nat) ∧ Aside (RowAt wr (r + 1) 120 #[.int .u32 0, .int .u32 0, .int .u32 0, .bool false, .bool false, .int .i64 (trC H k : Nat)] ∧ RowAt wr r 120 #[.int .u32 0, .int .u32 0, .int .u32 0, .bool false, .bool false, .int .i64 0] ∧ Below r w wr))
    case atStart => exact ⟨0, by omega, rfl, H8.out⟩
    case round =>
      obtain ⟨k, hkg, rfl, HR⟩ := hrel
      have x5 : wr.cell? ⟨r + 1, 5, none⟩ = some (.int .i64 (trC H k : Nat)) := HR.out.1.cell 5
      have g5 := HR.out.1.fr 5
      cases gk with
      | zero =>
        obtain rfl : k = 3 := by omega
        clear x5 g5
        go_wp2_with (first
          | (refine wpList_load_row rfl 120 (.tmp 3) rfl (r + 1) rfl 120 #[.int .u32 0, .int .u32 0, .int .u32 0, .bool false, .bool false, .int .i64 (trC H 3 : Nat)] (0, 0) _ HR.out.1 Try.underlying120 rfl (by kernel_rfl) ?_)
          | (refine wpList_store_row rfl 120 (.tmp 2) (.tmp 61) rfl r #[.int .u32 0, .int .u32 0, .int .u32 0, .bool false, .bool false, .int .i64 (trC H 3 : Nat)] rfl rfl 120 _ HR.out.2.1 (by kernel_rfl) rfl (state_one _ _ _ _ _ _) ?_)
          | fail)
        refine bodyPost_ret (results_cell_row rfl _ _ r 120 #[.int .u32 0, .int .u32 0, .int .u32 0, .bool false, .bool false, .int .i64 (trC H 3 : Nat)] (0, 0) _ rfl (RowAt.put HR.out.2.1) Try.underlying120 rfl (by kernel_rfl)) rfl ?_
        refine ⟨?_, below_setRow HR.out.2.2 (Nat.le_refl r) _⟩
        rw [HCF.out, show headH H 0 = _ from if_neg (by rw [HV.out]; decide), show headH H 2 = _ from if_neg (by rw [HV.out]; decide), show headH H 4 = _ from if_neg (by rw [HV.out]; decide), HV.out]
        rfl
      | succ g1 =>
        have hlt : k < 3 := by omega
        have ho := ones_nb (H (10 + k))
        have hl := HTR.out k
        have hw : IntKind.i64.wrap ((trC H k : Nat) + 1) = ((trC H k + 1 : Nat) : Int) := by rw [IntKind.wrap_i64]; omega
        have hlt13 : ((10 + k : Nat) : Int) < 13 := by omega
        cases hb : (H (10 + k) == BitVec.allOnes 32) with
        | true =>
          rw [hb] at ho
          have HTT := Lib.hid (show trC H (k + 1) = trC H k from if_pos hb)
          clear hb hl hw
          go_wp2_with fail
          refine (HA.out _ HR.out.2.2 (10 + k)).mono ?_
          rintro e w9 ⟨rfl, rfl⟩
          go_wp2
          go_roundg g1
          case measure => omega
          case rel => exact ⟨k + 1, by omega, by go_num, by rw [HTT.out]; exact HR.out⟩
        | false =>
          rw [hb] at ho
          have HTT := Lib.hid (show trC H (k + 1) = trC H k + 1 from if_neg (by rw [hb]; decide))
          clear hb hl
          go_wp2_with fail
          refine (HA.out _ HR.out.2.2 (10 + k)).mono ?_
          rintro e w9 ⟨rfl, rfl⟩
          go_wp2
          go_roundg g1
          case measure => omega
          case rel =>
            refine ⟨k + 1, by omega, by go_num, ?_, ?_, ?_⟩
            · rw [HTT.out]
              exact heap_setCell_same _ (r + 1) 5 _ _ (.int .i64 ((trC H k + 1 : Nat) : Int)) HR.out.1
            · exact ((Ch.refl (fun j => j = r + 1) _).setCell ⟨r + 1, 5, none⟩ _ (.inl rfl)).obj HR.out.2.1 (by omega)
            · exact HR.out.2.2.setCell (Nat.le_succ r) _
  | true =>
  cases h6 : (H 7 == ~~~H 6) with
  | false =>
    have HV := Lib.hid (show validH H = false by rw [valid_ref]; simp only [h6, Bool.false_and, Bool.and_false])
    have HCF := Lib.hid (show confH H = false by rw [conf_ref, HV.out]; rfl)
    go_enter Try.func63, Try.ntmps63
    go_upto_region 2 with fail
    rw [← hw1, ← hw2, ← hr]
    clear hw1 hw2 hr s1
    go_wp2_with fail
    refine (HT.out _ H2.out.2.2.1 0 1 rfl (by decide)).mono ?_
    rintro e w9 ⟨rfl, rfl⟩
    go_wp2_with fail
    refine (HT.out _ H2.out.2.2.1 2 3 rfl (by decide)).mono ?_
    rintro e w9 ⟨rfl, rfl⟩
    go_wp2_with fail
    refine (HT.out _ H2.out.2.2.1 4 5 rfl (by decide)).mono ?_
    rintro e w9 ⟨rfl, rfl⟩
    go_wp2_with fail
    refine (HT.out _ H2.out.2.2.1 6 7 rfl (by decide)).mono ?_
    rintro e w9 ⟨rfl, rfl⟩
    go_upto_region 8 with fail
    have X8 : RowAt ((w2.setCell ⟨r + 1, 3, none⟩ (.bool false)).setCell ⟨r + 1, 4, none⟩ (.bool false)) (r + 1) 120 #[.int .u32 0, .int .u32 0, .int .u32 0, .bool false, .bool false, .int .i64 0] := (heap_setCell_same _ (r + 1) 4 _ _ (.bool false) (heap_setCell_same _ (r + 1) 3 _ _ (.bool false) H2.out.1))
    have Y8 : RowAt ((w2.setCell ⟨r + 1, 3, none⟩ (.bool false)).setCell ⟨r + 1, 4, none⟩ (.bool false)) r 120 #[.int .u32 0, .int .u32 0, .int .u32 0, .bool false, .bool false, .int .i64 0] := by
      have hc : Ch (fun j => j = r + 1) w2 ((w2.setCell ⟨r + 1, 3, none⟩ (.bool false)).setCell ⟨r + 1, 4, none⟩ (.bool false)) := (((Ch.refl (fun j => j = r + 1) w2).setCell ⟨r + 1, 3, none⟩ (.bool false) (.inl rfl)).setCell ⟨r + 1, 4, none⟩ (.bool false) (.inl rfl))
      exact hc.obj H2.out.2.1 (by omega)
    have B8 : Below r w ((w2.setCell ⟨r + 1, 3, none⟩ (.bool false)).setCell ⟨r + 1, 4, none⟩ (.bool false)) := ((H2.out.2.2.1.setCell (Nat.le_succ r) _).setCell (Nat.le_succ r) _)
    have H8 := Lib.hid (show RowAt ((w2.setCell ⟨r + 1, 3, none⟩ (.bool false)).setCell ⟨r + 1, 4, none⟩ (.bool false)) (r + 1) 120 #[.int .u32 0, .int .u32 0, .int .u32 0, .bool false, .bool false, .int .i64 0] ∧ RowAt ((w2.setCell ⟨r + 1, 3, none⟩ (.bool false)).setCell ⟨r + 1, 4, none⟩ (.bool false)) r 120 #[.int .u32 0, .int .u32 0, .int .u32 0, .bool false, .bool false, .int .i64 0] ∧ Below r w ((w2.setCell ⟨r + 1, 3, none⟩ (.bool false)).setCell ⟨r + 1, 4, none⟩ (.bool false)) from ⟨X8, Y8, B8⟩)
    clear X8 Y8 B8 q6 q8 d0 d1 d2 d3 d4 d5 f0 f1 f2' f3 f4 f5
    generalize (w2.setCell ⟨r + 1, 3, none⟩ (.bool false)).setCell ⟨r + 1, 4, none⟩ (.bool false) = w8 at H8 ⊢
    go_wp2
    go_loopg [4] 3 (fun g i wr => ∃ (k : Nat), k + g = 3 ∧ i = .int .i64 (10 + k : Nat) ∧ Aside (RowAt wr (r + 1) 120 #[.int .u32 0, .int .u32 0, .int .u32 0, .bool false, .bool false, .int .i64 (trC H k : Nat)] ∧ RowAt wr r 120 #[.int .u32 0, .int .u32 0, .int .u32 0, .bool false, .bool false, .int .i64 0] ∧ Below r w wr))
    case atStart => exact ⟨0, by omega, rfl, H8.out⟩
    case round =>
      obtain ⟨k, hkg, rfl, HR⟩ := hrel
      have x5 : wr.cell? ⟨r + 1, 5, none⟩ = some (.int .i64 (trC H k : Nat)) := HR.out.1.cell 5
      have g5 := HR.out.1.fr 5
      cases gk with
      | zero =>
        obtain rfl : k = 3 := by omega
        clear x5 g5
        go_wp2_with (first
          | (refine wpList_load_row rfl 120 (.tmp 3) rfl (r + 1) rfl 120 #[.int .u32 0, .int .u32 0, .int .u32 0, .bool false, .bool false, .int .i64 (trC H 3 : Nat)] (0, 0) _ HR.out.1 Try.underlying120 rfl (by kernel_rfl) ?_)
          | (refine wpList_store_row rfl 120 (.tmp 2) (.tmp 61) rfl r #[.int .u32 0, .int .u32 0, .int .u32 0, .bool false, .bool false, .int .i64 (trC H 3 : Nat)] rfl rfl 120 _ HR.out.2.1 (by kernel_rfl) rfl (state_one _ _ _ _ _ _) ?_)
          | fail)
        refine bodyPost_ret (results_cell_row rfl _ _ r 120 #[.int .u32 0, .int .u32 0, .int .u32 0, .bool false, .bool false, .int .i64 (trC H 3 : Nat)] (0, 0) _ rfl (RowAt.put HR.out.2.1) Try.underlying120 rfl (by kernel_rfl)) rfl ?_
        refine ⟨?_, below_setRow HR.out.2.2 (Nat.le_refl r) _⟩
        rw [HCF.out, show headH H 0 = _ from if_neg (by rw [HV.out]; decide), show headH H 2 = _ from if_neg (by rw [HV.out]; decide), show headH H 4 = _ from if_neg (by rw [HV.out]; decide), HV.out]
        rfl
      | succ g1 =>
        have hlt : k < 3 := by omega
        have ho := ones_nb (H (10 + k))
        have hl := HTR.out k
        have hw : IntKind.i64.wrap ((trC H k : Nat) + 1) = ((trC H k + 1 : Nat) : Int) := by rw [IntKind.wrap_i64]; omega
        have hlt13 : ((10 + k : Nat) : Int) < 13 := by omega
        cases hb : (H (10 + k) == BitVec.allOnes 32) with
        | true =>
          rw [hb] at ho
          have HTT := Lib.hid (show trC H (k + 1) = trC H k from if_pos hb)
          clear hb hl hw
          go_wp2_with fail
          refine (HA.out _ HR.out.2.2 (10 + k)).mono ?_
          rintro e w9 ⟨rfl, rfl⟩
          go_wp2
          go_roundg g1
          case measure => omega
          case rel => exact ⟨k + 1, by omega, by go_num, by rw [HTT.out]; exact HR.out⟩
        | false =>
          rw [hb] at ho
          have HTT := Lib.hid (show trC H (k + 1) = trC H k + 1 from if_neg (by rw [hb]; decide))
          clear hb hl
          go_wp2_with fail
          refine (HA.out _ HR.out.2.2 (10 + k)).mono ?_
          rintro e w9 ⟨rfl, rfl⟩
          go_wp2
          go_roundg g1
          case measure => omega
          case rel =>
            refine ⟨k + 1, by omega, by go_num, ?_, ?_, ?_⟩
            · rw [HTT.out]
              exact heap_setCell_same _ (r + 1) 5 _ _ (.int .i64 ((trC H k + 1 : Nat) : Int)) HR.out.1
            · exact ((Ch.refl (fun j => j = r + 1) _).setCell ⟨r + 1, 5, none⟩ _ (.inl rfl)).obj HR.out.2.1 (by omega)
            · exact HR.out.2.2.setCell (Nat.le_succ r) _
  | true =>
  cases hm : (H 6 == comW) with
  | false =>
    have HV := Lib.hid (show validH H = false by rw [valid_ref]; simp only [hm, Bool.and_false])
    have HCF := Lib.hid (show confH H = false by rw [conf_ref, HV.out]; rfl)
    rw [hm] at q6
    go_enter Try.func63, Try.ntmps63
    go_upto_region 2 with fail
    rw [← hw1, ← hw2, ← hr]
    clear hw1 hw2 hr s1
    go_wp2_with fail
    refine (HT.out _ H2.out.2.2.1 0 1 rfl (by decide)).mono ?_
    rintro e w9 ⟨rfl, rfl⟩
    go_wp2_with fail
    refine (HT.out _ H2.out.2.2.1 2 3 rfl (by decide)).mono ?_
    rintro e w9 ⟨rfl, rfl⟩
    go_wp2_with fail
    refine (HT.out _ H2.out.2.2.1 4 5 rfl (by decide)).mono ?_
    rintro e w9 ⟨rfl, rfl⟩
    go_wp2_with fail
    refine (HT.out _ H2.out.2.2.1 6 7 rfl (by decide)).mono ?_
    rintro e w9 ⟨rfl, rfl⟩
    go_wp2_with fail
    refine (HA.out _ H2.out.2.2.1 6).mono ?_
    rintro e w9 ⟨rfl, rfl⟩
    go_upto_region 8 with fail
    have X8 : RowAt ((w2.setCell ⟨r + 1, 3, none⟩ (.bool false)).setCell ⟨r + 1, 4, none⟩ (.bool false)) (r + 1) 120 #[.int .u32 0, .int .u32 0, .int .u32 0, .bool false, .bool false, .int .i64 0] := (heap_setCell_same _ (r + 1) 4 _ _ (.bool false) (heap_setCell_same _ (r + 1) 3 _ _ (.bool false) H2.out.1))
    have Y8 : RowAt ((w2.setCell ⟨r + 1, 3, none⟩ (.bool false)).setCell ⟨r + 1, 4, none⟩ (.bool false)) r 120 #[.int .u32 0, .int .u32 0, .int .u32 0, .bool false, .bool false, .int .i64 0] := by
      have hc : Ch (fun j => j = r + 1) w2 ((w2.setCell ⟨r + 1, 3, none⟩ (.bool false)).setCell ⟨r + 1, 4, none⟩ (.bool false)) := (((Ch.refl (fun j => j = r + 1) w2).setCell ⟨r + 1, 3, none⟩ (.bool false) (.inl rfl)).setCell ⟨r + 1, 4, none⟩ (.bool false) (.inl rfl))
      exact hc.obj H2.out.2.1 (by omega)
    have B8 : Below r w ((w2.setCell ⟨r + 1, 3, none⟩ (.bool false)).setCell ⟨r + 1, 4, none⟩ (.bool false)) := ((H2.out.2.2.1.setCell (Nat.le_succ r) _).setCell (Nat.le_succ r) _)
    have H8 := Lib.hid (show RowAt ((w2.setCell ⟨r + 1, 3, none⟩ (.bool false)).setCell ⟨r + 1, 4, none⟩ (.bool false)) (r + 1) 120 #[.int .u32 0, .int .u32 0, .int .u32 0, .bool false, .bool false, .int .i64 0] ∧ RowAt ((w2.setCell ⟨r + 1, 3, none⟩ (.bool false)).setCell ⟨r + 1, 4, none⟩ (.bool false)) r 120 #[.int .u32 0, .int .u32 0, .int .u32 0, .bool false, .bool false, .int .i64 0] ∧ Below r w ((w2.setCell ⟨r + 1, 3, none⟩ (.bool false)).setCell ⟨r + 1, 4, none⟩ (.bool false)) from ⟨X8, Y8, B8⟩)
    clear X8 Y8 B8 q6 q8 d0 d1 d2 d3 d4 d5 f0 f1 f2' f3 f4 f5
    generalize (w2.setCell ⟨r + 1, 3, none⟩ (.bool false)).setCell ⟨r + 1, 4, none⟩ (.bool false) = w8 at H8 ⊢
    go_wp2
    go_loopg [4] 3 (fun g i wr => ∃ (k : Nat), k + g = 3 ∧ i = .int .i64 (10 + k : Nat) ∧ Aside (RowAt wr (r + 1) 120 #[.int .u32 0, .int .u32 0, .int .u32 0, .bool false, .bool false, .int .i64 (trC H k : Nat)] ∧ RowAt wr r 120 #[.int .u32 0, .int .u32 0, .int .u32 0, .bool false, .bool false, .int .i64 0] ∧ Below r w wr))
    case atStart => exact ⟨0, by omega, rfl, H8.out⟩
    case round =>
      obtain ⟨k, hkg, rfl, HR⟩ := hrel
      have x5 : wr.cell? ⟨r + 1, 5, none⟩ = some (.int .i64 (trC H k : Nat)) := HR.out.1.cell 5
      have g5 := HR.out.1.fr 5
      cases gk with
      | zero =>
        obtain rfl : k = 3 := by omega
        clear x5 g5
        go_wp2_with (first
          | (refine wpList_load_row rfl 120 (.tmp 3) rfl (r + 1) rfl 120 #[.int .u32 0, .int .u32 0, .int .u32 0, .bool false, .bool false, .int .i64 (trC H 3 : Nat)] (0, 0) _ HR.out.1 Try.underlying120 rfl (by kernel_rfl) ?_)
          | (refine wpList_store_row rfl 120 (.tmp 2) (.tmp 61) rfl r #[.int .u32 0, .int .u32 0, .int .u32 0, .bool false, .bool false, .int .i64 (trC H 3 : Nat)] rfl rfl 120 _ HR.out.2.1 (by kernel_rfl) rfl (state_one _ _ _ _ _ _) ?_)
          | fail)
        refine bodyPost_ret (results_cell_row rfl _ _ r 120 #[.int .u32 0, .int .u32 0, .int .u32 0, .bool false, .bool false, .int .i64 (trC H 3 : Nat)] (0, 0) _ rfl (RowAt.put HR.out.2.1) Try.underlying120 rfl (by kernel_rfl)) rfl ?_
        refine ⟨?_, below_setRow HR.out.2.2 (Nat.le_refl r) _⟩
        rw [HCF.out, show headH H 0 = _ from if_neg (by rw [HV.out]; decide), show headH H 2 = _ from if_neg (by rw [HV.out]; decide), show headH H 4 = _ from if_neg (by rw [HV.out]; decide), HV.out]
        rfl
      | succ g1 =>
        have hlt : k < 3 := by omega
        have ho := ones_nb (H (10 + k))
        have hl := HTR.out k
        have hw : IntKind.i64.wrap ((trC H k : Nat) + 1) = ((trC H k + 1 : Nat) : Int) := by rw [IntKind.wrap_i64]; omega
        have hlt13 : ((10 + k : Nat) : Int) < 13 := by omega
        cases hb : (H (10 + k) == BitVec.allOnes 32) with
        | true =>
          rw [hb] at ho
          have HTT := Lib.hid (show trC H (k + 1) = trC H k from if_pos hb)
          clear hb hl hw
          go_wp2_with fail
          refine (HA.out _ HR.out.2.2 (10 + k)).mono ?_
          rintro e w9 ⟨rfl, rfl⟩
          go_wp2
          go_roundg g1
          case measure => omega
          case rel => exact ⟨k + 1, by omega, by go_num, by rw [HTT.out]; exact HR.out⟩
        | false =>
          rw [hb] at ho
          have HTT := Lib.hid (show trC H (k + 1) = trC H k + 1 from if_neg (by rw [hb]; decide))
          clear hb hl
          go_wp2_with fail
          refine (HA.out _ HR.out.2.2 (10 + k)).mono ?_
          rintro e w9 ⟨rfl, rfl⟩
          go_wp2
          go_roundg g1
          case measure => omega
          case rel =>
            refine ⟨k + 1, by omega, by go_num, ?_, ?_, ?_⟩
            · rw [HTT.out]
              exact heap_setCell_same _ (r + 1) 5 _ _ (.int .i64 ((trC H k + 1 : Nat) : Int)) HR.out.1
            · exact ((Ch.refl (fun j => j = r + 1) _).setCell ⟨r + 1, 5, none⟩ _ (.inl rfl)).obj HR.out.2.1 (by omega)
            · exact HR.out.2.2.setCell (Nat.le_succ r) _
  | true =>
  have HV := Lib.hid (show validH H = true by rw [valid_ref, h0, h2, h4, h6, hm]; rfl)
  rw [hm] at q6
  obtain ⟨cf, hcf⟩ : ∃ cf, (H 8 == conW) = cf := ⟨_, rfl⟩
  rw [hcf] at q8
  cases h8 : (H 9 == ~~~H 8) with
  | false =>
    have HCF := Lib.hid (show confH H = false by rw [conf_ref, HV.out, h8]; rfl)
    go_enter Try.func63, Try.ntmps63
    go_upto_region 2 with fail
    rw [← hw1, ← hw2, ← hr]
    clear hw1 hw2 hr s1
    go_wp2_with fail
    refine (HT.out _ H2.out.2.2.1 0 1 rfl (by decide)).mono ?_
    rintro e w9 ⟨rfl, rfl⟩
    go_wp2_with fail
    refine (HT.out _ H2.out.2.2.1 2 3 rfl (by decide)).mono ?_
    rintro e w9 ⟨rfl, rfl⟩
    go_wp2_with fail
    refine (HT.out _ H2.out.2.2.1 4 5 rfl (by decide)).mono ?_
    rintro e w9 ⟨rfl, rfl⟩
    go_wp2_with fail
    refine (HT.out _ H2.out.2.2.1 6 7 rfl (by decide)).mono ?_
    rintro e w9 ⟨rfl, rfl⟩
    go_wp2_with fail
    refine (HA.out _ H2.out.2.2.1 6).mono ?_
    rintro e w9 ⟨rfl, rfl⟩
    go_wp2_with fail
    refine (HT.out _ (H2.out.2.2.1.setCell (Nat.le_succ r) _) 8 9 rfl (by decide)).mono ?_
    rintro e w9 ⟨rfl, rfl⟩
    go_wp2_with fail
    refine (HA.out _ ((H2.out.2.2.1.setCell (Nat.le_succ r) _).setCell (Nat.le_succ r) _) 0).mono ?_
    rintro e w9 ⟨rfl, rfl⟩
    go_wp2_with fail
    refine (HA.out _ (((H2.out.2.2.1.setCell (Nat.le_succ r) _).setCell (Nat.le_succ r) _).setCell (Nat.le_succ r) _) 2).mono ?_
    rintro e w9 ⟨rfl, rfl⟩
    go_wp2_with fail
    refine (HA.out _ ((((H2.out.2.2.1.setCell (Nat.le_succ r) _).setCell (Nat.le_succ r) _).setCell (Nat.le_succ r) _).setCell (Nat.le_succ r) _) 4).mono ?_
    rintro e w9 ⟨rfl, rfl⟩
    go_upto_region 8 with fail
    have X8 : RowAt (((((w2.setCell ⟨r + 1, 3, none⟩ (.bool true)).setCell ⟨r + 1, 4, none⟩ (.bool false)).setCell ⟨r + 1, 0, none⟩ (.int .u32 (w32 (H 0)))).setCell ⟨r + 1, 1, none⟩ (.int .u32 (w32 (H 2)))).setCell ⟨r + 1, 2, none⟩ (.int .u32 (w32 (H 4)))) (r + 1) 120 #[.int .u32 (w32 (H 0)), .int .u32 (w32 (H 2)), .int .u32 (w32 (H 4)), .bool true, .bool false, .int .i64 0] := (heap_setCell_same _ (r + 1) 2 _ _ (.int .u32 (w32 (H 4))) (heap_setCell_same _ (r + 1) 1 _ _ (.int .u32 (w32 (H 2))) (heap_setCell_same _ (r + 1) 0 _ _ (.int .u32 (w32 (H 0))) (heap_setCell_same _ (r + 1) 4 _ _ (.bool false) (heap_setCell_same _ (r + 1) 3 _ _ (.bool true) H2.out.1)))))
    have Y8 : RowAt (((((w2.setCell ⟨r + 1, 3, none⟩ (.bool true)).setCell ⟨r + 1, 4, none⟩ (.bool false)).setCell ⟨r + 1, 0, none⟩ (.int .u32 (w32 (H 0)))).setCell ⟨r + 1, 1, none⟩ (.int .u32 (w32 (H 2)))).setCell ⟨r + 1, 2, none⟩ (.int .u32 (w32 (H 4)))) r 120 #[.int .u32 0, .int .u32 0, .int .u32 0, .bool false, .bool false, .int .i64 0] := by
      have hc : Ch (fun j => j = r + 1) w2 (((((w2.setCell ⟨r + 1, 3, none⟩ (.bool true)).setCell ⟨r + 1, 4, none⟩ (.bool false)).setCell ⟨r + 1, 0, none⟩ (.int .u32 (w32 (H 0)))).setCell ⟨r + 1, 1, none⟩ (.int .u32 (w32 (H 2)))).setCell ⟨r + 1, 2, none⟩ (.int .u32 (w32 (H 4)))) := ((((((Ch.refl (fun j => j = r + 1) w2).setCell ⟨r + 1, 3, none⟩ (.bool true) (.inl rfl)).setCell ⟨r + 1, 4, none⟩ (.bool false) (.inl rfl)).setCell ⟨r + 1, 0, none⟩ (.int .u32 (w32 (H 0))) (.inl rfl)).setCell ⟨r + 1, 1, none⟩ (.int .u32 (w32 (H 2))) (.inl rfl)).setCell ⟨r + 1, 2, none⟩ (.int .u32 (w32 (H 4))) (.inl rfl))
      exact hc.obj H2.out.2.1 (by omega)
    have B8 : Below r w (((((w2.setCell ⟨r + 1, 3, none⟩ (.bool true)).setCell ⟨r + 1, 4, none⟩ (.bool false)).setCell ⟨r + 1, 0, none⟩ (.int .u32 (w32 (H 0)))).setCell ⟨r + 1, 1, none⟩ (.int .u32 (w32 (H 2)))).setCell ⟨r + 1, 2, none⟩ (.int .u32 (w32 (H 4)))) := (((((H2.out.2.2.1.setCell (Nat.le_succ r) _).setCell (Nat.le_succ r) _).setCell (Nat.le_succ r) _).setCell (Nat.le_succ r) _).setCell (Nat.le_succ r) _)
    have H8 := Lib.hid (show RowAt (((((w2.setCell ⟨r + 1, 3, none⟩ (.bool true)).setCell ⟨r + 1, 4, none⟩ (.bool false)).setCell ⟨r + 1, 0, none⟩ (.int .u32 (w32 (H 0)))).setCell ⟨r + 1, 1, none⟩ (.int .u32 (w32 (H 2)))).setCell ⟨r + 1, 2, none⟩ (.int .u32 (w32 (H 4)))) (r + 1) 120 #[.int .u32 (w32 (H 0)), .int .u32 (w32 (H 2)), .int .u32 (w32 (H 4)), .bool true, .bool false, .int .i64 0] ∧ RowAt (((((w2.setCell ⟨r + 1, 3, none⟩ (.bool true)).setCell ⟨r + 1, 4, none⟩ (.bool false)).setCell ⟨r + 1, 0, none⟩ (.int .u32 (w32 (H 0)))).setCell ⟨r + 1, 1, none⟩ (.int .u32 (w32 (H 2)))).setCell ⟨r + 1, 2, none⟩ (.int .u32 (w32 (H 4)))) r 120 #[.int .u32 0, .int .u32 0, .int .u32 0, .bool false, .bool false, .int .i64 0] ∧ Below r w (((((w2.setCell ⟨r + 1, 3, none⟩ (.bool true)).setCell ⟨r + 1, 4, none⟩ (.bool false)).setCell ⟨r + 1, 0, none⟩ (.int .u32 (w32 (H 0)))).setCell ⟨r + 1, 1, none⟩ (.int .u32 (w32 (H 2)))).setCell ⟨r + 1, 2, none⟩ (.int .u32 (w32 (H 4)))) from ⟨X8, Y8, B8⟩)
    clear h0 h2 h4 h6 hm h8
    clear X8 Y8 B8 q6 q8 d0 d1 d2 d3 d4 d5 f0 f1 f2' f3 f4 f5
    generalize ((((w2.setCell ⟨r + 1, 3, none⟩ (.bool true)).setCell ⟨r + 1, 4, none⟩ (.bool false)).setCell ⟨r + 1, 0, none⟩ (.int .u32 (w32 (H 0)))).setCell ⟨r + 1, 1, none⟩ (.int .u32 (w32 (H 2)))).setCell ⟨r + 1, 2, none⟩ (.int .u32 (w32 (H 4))) = w8 at H8 ⊢
    go_wp2
    go_loopg [4] 3 (fun g i wr => ∃ (k : Nat), k + g = 3 ∧ i = .int .i64 (10 + k : Nat) ∧ Aside (RowAt wr (r + 1) 120 #[.int .u32 (w32 (H 0)), .int .u32 (w32 (H 2)), .int .u32 (w32 (H 4)), .bool true, .bool false, .int .i64 (trC H k : Nat)] ∧ RowAt wr r 120 #[.int .u32 0, .int .u32 0, .int .u32 0, .bool false, .bool false, .int .i64 0] ∧ Below r w wr))
    case atStart => exact ⟨0, by omega, rfl, H8.out⟩
    case round =>
      obtain ⟨k, hkg, rfl, HR⟩ := hrel
      have x5 : wr.cell? ⟨r + 1, 5, none⟩ = some (.int .i64 (trC H k : Nat)) := HR.out.1.cell 5
      have g5 := HR.out.1.fr 5
      cases gk with
      | zero =>
        obtain rfl : k = 3 := by omega
        clear x5 g5
        go_wp2_with (first
          | (refine wpList_load_row rfl 120 (.tmp 3) rfl (r + 1) rfl 120 #[.int .u32 (w32 (H 0)), .int .u32 (w32 (H 2)), .int .u32 (w32 (H 4)), .bool true, .bool false, .int .i64 (trC H 3 : Nat)] (0, 0) _ HR.out.1 Try.underlying120 rfl (by kernel_rfl) ?_)
          | (refine wpList_store_row rfl 120 (.tmp 2) (.tmp 61) rfl r #[.int .u32 (w32 (H 0)), .int .u32 (w32 (H 2)), .int .u32 (w32 (H 4)), .bool true, .bool false, .int .i64 (trC H 3 : Nat)] rfl rfl 120 _ HR.out.2.1 (by kernel_rfl) rfl (state_one _ _ _ _ _ _) ?_)
          | fail)
        refine bodyPost_ret (results_cell_row rfl _ _ r 120 #[.int .u32 (w32 (H 0)), .int .u32 (w32 (H 2)), .int .u32 (w32 (H 4)), .bool true, .bool false, .int .i64 (trC H 3 : Nat)] (0, 0) _ rfl (RowAt.put HR.out.2.1) Try.underlying120 rfl (by kernel_rfl)) rfl ?_
        refine ⟨?_, below_setRow HR.out.2.2 (Nat.le_refl r) _⟩
        rw [HCF.out, show headH H 0 = _ from if_pos HV.out, show headH H 2 = _ from if_pos HV.out, show headH H 4 = _ from if_pos HV.out, HV.out]
      | succ g1 =>
        have hlt : k < 3 := by omega
        have ho := ones_nb (H (10 + k))
        have hl := HTR.out k
        have hw : IntKind.i64.wrap ((trC H k : Nat) + 1) = ((trC H k + 1 : Nat) : Int) := by rw [IntKind.wrap_i64]; omega
        have hlt13 : ((10 + k : Nat) : Int) < 13 := by omega
        cases hb : (H (10 + k) == BitVec.allOnes 32) with
        | true =>
          rw [hb] at ho
          have HTT := Lib.hid (show trC H (k + 1) = trC H k from if_pos hb)
          clear hb hl hw
          go_wp2_with fail
          refine (HA.out _ HR.out.2.2 (10 + k)).mono ?_
          rintro e w9 ⟨rfl, rfl⟩
          go_wp2
          go_roundg g1
          case measure => omega
          case rel => exact ⟨k + 1, by omega, by go_num, by rw [HTT.out]; exact HR.out⟩
        | false =>
          rw [hb] at ho
          have HTT := Lib.hid (show trC H (k + 1) = trC H k + 1 from if_neg (by rw [hb]; decide))
          clear hb hl
          go_wp2_with fail
          refine (HA.out _ HR.out.2.2 (10 + k)).mono ?_
          rintro e w9 ⟨rfl, rfl⟩
          go_wp2
          go_roundg g1
          case measure => omega
          case rel =>
            refine ⟨k + 1, by omega, by go_num, ?_, ?_, ?_⟩
            · rw [HTT.out]
              exact heap_setCell_same _ (r + 1) 5 _ _ (.int .i64 ((trC H k + 1 : Nat) : Int)) HR.out.1
            · exact ((Ch.refl (fun j => j = r + 1) _).setCell ⟨r + 1, 5, none⟩ _ (.inl rfl)).obj HR.out.2.1 (by omega)
            · exact HR.out.2.2.setCell (Nat.le_succ r) _
  | true =>
    have HCF := Lib.hid (show confH H = cf by rw [conf_ref, HV.out, h8, hcf]; rfl)
    clear hcf
    go_enter Try.func63, Try.ntmps63
    go_upto_region 2 with fail
    rw [← hw1, ← hw2, ← hr]
    clear hw1 hw2 hr s1
    go_wp2_with fail
    refine (HT.out _ H2.out.2.2.1 0 1 rfl (by decide)).mono ?_
    rintro e w9 ⟨rfl, rfl⟩
    go_wp2_with fail
    refine (HT.out _ H2.out.2.2.1 2 3 rfl (by decide)).mono ?_
    rintro e w9 ⟨rfl, rfl⟩
    go_wp2_with fail
    refine (HT.out _ H2.out.2.2.1 4 5 rfl (by decide)).mono ?_
    rintro e w9 ⟨rfl, rfl⟩
    go_wp2_with fail
    refine (HT.out _ H2.out.2.2.1 6 7 rfl (by decide)).mono ?_
    rintro e w9 ⟨rfl, rfl⟩
    go_wp2_with fail
    refine (HA.out _ H2.out.2.2.1 6).mono ?_
    rintro e w9 ⟨rfl, rfl⟩
    go_wp2_with fail
    refine (HT.out _ (H2.out.2.2.1.setCell (Nat.le_succ r) _) 8 9 rfl (by decide)).mono ?_
    rintro e w9 ⟨rfl, rfl⟩
    go_wp2_with fail
    refine (HA.out _ (H2.out.2.2.1.setCell (Nat.le_succ r) _) 8).mono ?_
    rintro e w9 ⟨rfl, rfl⟩
    go_wp2_with fail
    refine (HA.out _ ((H2.out.2.2.1.setCell (Nat.le_succ r) _).setCell (Nat.le_succ r) _) 0).mono ?_
    rintro e w9 ⟨rfl, rfl⟩
    go_wp2_with fail
    refine (HA.out _ (((H2.out.2.2.1.setCell (Nat.le_succ r) _).setCell (Nat.le_succ r) _).setCell (Nat.le_succ r) _) 2).mono ?_
    rintro e w9 ⟨rfl, rfl⟩
    go_wp2_with fail
    refine (HA.out _ ((((H2.out.2.2.1.setCell (Nat.le_succ r) _).setCell (Nat.le_succ r) _).setCell (Nat.le_succ r) _).setCell (Nat.le_succ r) _) 4).mono ?_
    rintro e w9 ⟨rfl, rfl⟩
    go_upto_region 8 with fail
    have X8 : RowAt (((((w2.setCell ⟨r + 1, 3, none⟩ (.bool true)).setCell ⟨r + 1, 4, none⟩ (.bool cf)).setCell ⟨r + 1, 0, none⟩ (.int .u32 (w32 (H 0)))).setCell ⟨r + 1, 1, none⟩ (.int .u32 (w32 (H 2)))).setCell ⟨r + 1, 2, none⟩ (.int .u32 (w32 (H 4)))) (r + 1) 120 #[.int .u32 (w32 (H 0)), .int .u32 (w32 (H 2)), .int .u32 (w32 (H 4)), .bool true, .bool cf, .int .i64 0] := (heap_setCell_same _ (r + 1) 2 _ _ (.int .u32 (w32 (H 4))) (heap_setCell_same _ (r + 1) 1 _ _ (.int .u32 (w32 (H 2))) (heap_setCell_same _ (r + 1) 0 _ _ (.int .u32 (w32 (H 0))) (heap_setCell_same _ (r + 1) 4 _ _ (.bool cf) (heap_setCell_same _ (r + 1) 3 _ _ (.bool true) H2.out.1)))))
    have Y8 : RowAt (((((w2.setCell ⟨r + 1, 3, none⟩ (.bool true)).setCell ⟨r + 1, 4, none⟩ (.bool cf)).setCell ⟨r + 1, 0, none⟩ (.int .u32 (w32 (H 0)))).setCell ⟨r + 1, 1, none⟩ (.int .u32 (w32 (H 2)))).setCell ⟨r + 1, 2, none⟩ (.int .u32 (w32 (H 4)))) r 120 #[.int .u32 0, .int .u32 0, .int .u32 0, .bool false, .bool false, .int .i64 0] := by
      have hc : Ch (fun j => j = r + 1) w2 (((((w2.setCell ⟨r + 1, 3, none⟩ (.bool true)).setCell ⟨r + 1, 4, none⟩ (.bool cf)).setCell ⟨r + 1, 0, none⟩ (.int .u32 (w32 (H 0)))).setCell ⟨r + 1, 1, none⟩ (.int .u32 (w32 (H 2)))).setCell ⟨r + 1, 2, none⟩ (.int .u32 (w32 (H 4)))) := ((((((Ch.refl (fun j => j = r + 1) w2).setCell ⟨r + 1, 3, none⟩ (.bool true) (.inl rfl)).setCell ⟨r + 1, 4, none⟩ (.bool cf) (.inl rfl)).setCell ⟨r + 1, 0, none⟩ (.int .u32 (w32 (H 0))) (.inl rfl)).setCell ⟨r + 1, 1, none⟩ (.int .u32 (w32 (H 2))) (.inl rfl)).setCell ⟨r + 1, 2, none⟩ (.int .u32 (w32 (H 4))) (.inl rfl))
      exact hc.obj H2.out.2.1 (by omega)
    have B8 : Below r w (((((w2.setCell ⟨r + 1, 3, none⟩ (.bool true)).setCell ⟨r + 1, 4, none⟩ (.bool cf)).setCell ⟨r + 1, 0, none⟩ (.int .u32 (w32 (H 0)))).setCell ⟨r + 1, 1, none⟩ (.int .u32 (w32 (H 2)))).setCell ⟨r + 1, 2, none⟩ (.int .u32 (w32 (H 4)))) := (((((H2.out.2.2.1.setCell (Nat.le_succ r) _).setCell (Nat.le_succ r) _).setCell (Nat.le_succ r) _).setCell (Nat.le_succ r) _).setCell (Nat.le_succ r) _)
    have H8 := Lib.hid (show RowAt (((((w2.setCell ⟨r + 1, 3, none⟩ (.bool true)).setCell ⟨r + 1, 4, none⟩ (.bool cf)).setCell ⟨r + 1, 0, none⟩ (.int .u32 (w32 (H 0)))).setCell ⟨r + 1, 1, none⟩ (.int .u32 (w32 (H 2)))).setCell ⟨r + 1, 2, none⟩ (.int .u32 (w32 (H 4)))) (r + 1) 120 #[.int .u32 (w32 (H 0)), .int .u32 (w32 (H 2)), .int .u32 (w32 (H 4)), .bool true, .bool cf, .int .i64 0] ∧ RowAt (((((w2.setCell ⟨r + 1, 3, none⟩ (.bool true)).setCell ⟨r + 1, 4, none⟩ (.bool cf)).setCell ⟨r + 1, 0, none⟩ (.int .u32 (w32 (H 0)))).setCell ⟨r + 1, 1, none⟩ (.int .u32 (w32 (H 2)))).setCell ⟨r + 1, 2, none⟩ (.int .u32 (w32 (H 4)))) r 120 #[.int .u32 0, .int .u32 0, .int .u32 0, .bool false, .bool false, .int .i64 0] ∧ Below r w (((((w2.setCell ⟨r + 1, 3, none⟩ (.bool true)).setCell ⟨r + 1, 4, none⟩ (.bool cf)).setCell ⟨r + 1, 0, none⟩ (.int .u32 (w32 (H 0)))).setCell ⟨r + 1, 1, none⟩ (.int .u32 (w32 (H 2)))).setCell ⟨r + 1, 2, none⟩ (.int .u32 (w32 (H 4)))) from ⟨X8, Y8, B8⟩)
    clear h0 h2 h4 h6 hm h8
    clear X8 Y8 B8 q6 q8 d0 d1 d2 d3 d4 d5 f0 f1 f2' f3 f4 f5
    generalize ((((w2.setCell ⟨r + 1, 3, none⟩ (.bool true)).setCell ⟨r + 1, 4, none⟩ (.bool cf)).setCell ⟨r + 1, 0, none⟩ (.int .u32 (w32 (H 0)))).setCell ⟨r + 1, 1, none⟩ (.int .u32 (w32 (H 2)))).setCell ⟨r + 1, 2, none⟩ (.int .u32 (w32 (H 4))) = w8 at H8 ⊢
    go_wp2
    go_loopg [4] 3 (fun g i wr => ∃ (k : Nat), k + g = 3 ∧ i = .int .i64 (10 + k : Nat) ∧ Aside (RowAt wr (r + 1) 120 #[.int .u32 (w32 (H 0)), .int .u32 (w32 (H 2)), .int .u32 (w32 (H 4)), .bool true, .bool cf, .int .i64 (trC H k : Nat)] ∧ RowAt wr r 120 #[.int .u32 0, .int .u32 0, .int .u32 0, .bool false, .bool false, .int .i64 0] ∧ Below r w wr))
    case atStart => exact ⟨0, by omega, rfl, H8.out⟩
    case round =>
      obtain ⟨k, hkg, rfl, HR⟩ := hrel
      have x5 : wr.cell? ⟨r + 1, 5, none⟩ = some (.int .i64 (trC H k : Nat)) := HR.out.1.cell 5
      have g5 := HR.out.1.fr 5
      cases gk with
      | zero =>
        obtain rfl : k = 3 := by omega
        clear x5 g5
        go_wp2_with (first
          | (refine wpList_load_row rfl 120 (.tmp 3) rfl (r + 1) rfl 120 #[.int .u32 (w32 (H 0)), .int .u32 (w32 (H 2)), .int .u32 (w32 (H 4)), .bool true, .bool cf, .int .i64 (trC H 3 : Nat)] (0, 0) _ HR.out.1 Try.underlying120 rfl (by kernel_rfl) ?_)
          | (refine wpList_store_row rfl 120 (.tmp 2) (.tmp 61) rfl r #[.int .u32 (w32 (H 0)), .int .u32 (w32 (H 2)), .int .u32 (w32 (H 4)), .bool true, .bool cf, .int .i64 (trC H 3 : Nat)] rfl rfl 120 _ HR.out.2.1 (by kernel_rfl) rfl (state_one _ _ _ _ _ _) ?_)
          | fail)
        refine bodyPost_ret (results_cell_row rfl _ _ r 120 #[.int .u32 (w32 (H 0)), .int .u32 (w32 (H 2)), .int .u32 (w32 (H 4)), .bool true, .bool cf, .int .i64 (trC H 3 : Nat)] (0, 0) _ rfl (RowAt.put HR.out.2.1) Try.underlying120 rfl (by kernel_rfl)) rfl ?_
        refine ⟨?_, below_setRow HR.out.2.2 (Nat.le_refl r) _⟩
        rw [HCF.out, show headH H 0 = _ from if_pos HV.out, show headH H 2 = _ from if_pos HV.out, show headH H 4 = _ from if_pos HV.out, HV.out]
      | succ g1 =>
        have hlt : k < 3 := by omega
        have ho := ones_nb (H (10 + k))
        have hl := HTR.out k
        have hw : IntKind.i64.wrap ((trC H k : Nat) + 1) = ((trC H k + 1 : Nat) : Int) := by rw [IntKind.wrap_i64]; omega
        have hlt13 : ((10 + k : Nat) : Int) < 13 := by omega
        cases hb : (H (10 + k) == BitVec.allOnes 32) with
        | true =>
          rw [hb] at ho
          have HTT := Lib.hid (show trC H (k + 1) = trC H k from if_pos hb)
          clear hb hl hw
          go_wp2_with fail
          refine (HA.out _ HR.out.2.2 (10 + k)).mono ?_
          rintro e w9 ⟨rfl, rfl⟩
          go_wp2
          go_roundg g1
          case measure => omega
          case rel => exact ⟨k + 1, by omega, by go_num, by rw [HTT.out]; exact HR.out⟩
        | false =>
          rw [hb] at ho
          have HTT := Lib.hid (show trC H (k + 1) = trC H k + 1 from if_neg (by rw [hb]; decide))
          clear hb hl
          go_wp2_with fail
          refine (HA.out _ HR.out.2.2 (10 + k)).mono ?_
          rintro e w9 ⟨rfl, rfl⟩
          go_wp2
          go_roundg g1
          case measure => omega
          case rel =>
            refine ⟨k + 1, by omega, by go_num, ?_, ?_, ?_⟩
            · rw [HTT.out]
              exact heap_setCell_same _ (r + 1) 5 _ _ (.int .i64 ((trC H k + 1 : Nat) : Int)) HR.out.1
            · exact ((Ch.refl (fun j => j = r + 1) _).setCell ⟨r + 1, 5, none⟩ _ (.inl rfl)).obj HR.out.2.1 (by omega)
            · exact HR.out.2.2.setCell (Nat.le_succ r) _
end Go.Proofs.Ythpagbfabpfngaa
