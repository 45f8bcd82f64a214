/- The walk of ClassTells. -/
import Derived.Test.YtomdcmdgcnhnmaaVA
namespace Go.Proofs.Ytomdcmdgcnhnmaa
open Go.RowKit

theorem andnot_bit (x y : BitVec 32) (k : Nat) (hk : k < 32) : (x &&& ~~~y).getLsbD k = (x.getLsbD k && !y.getLsbD k) := by
  rw [BitVec.getLsbD_and, BitVec.getLsbD_not]; simp [hk]
theorem hasB_andnot (x y : BitVec 32) (i : Int) : hasB (x &&& ~~~y) i = (hasB x i && !hasB y i) := by
  by_cases h : 0 ≤ i ∧ i < 32
  · obtain ⟨k, rfl⟩ := Int.eq_ofNat_of_zero_le h.1
    have hk : k < 32 := by omega
    rw [hasB_nat _ k hk, hasB_nat _ k hk, hasB_nat _ k hk, andnot_bit x y k hk]
  · rw [hasB_none _ i h, hasB_none _ i h]; rfl
theorem hasB_and (x y : BitVec 32) (i : Int) : hasB (x &&& y) i = (hasB x i && hasB y i) := by
  by_cases h : 0 ≤ i ∧ i < 32
  · obtain ⟨k, rfl⟩ := Int.eq_ofNat_of_zero_le h.1
    have hk : k < 32 := by omega
    rw [hasB_nat _ k hk, hasB_nat _ k hk, hasB_nat _ k hk, BitVec.getLsbD_and]
  · rw [hasB_none _ i h, hasB_none _ i h]; rfl
theorem join_from (x y : BitVec 32) : (x &&& ~~~y) ||| (x &&& y) = x := by
  apply BitVec.eq_of_getLsbD_eq; intro i hi
  rw [BitVec.getLsbD_or, andnot_bit x y i hi, BitVec.getLsbD_and]
  cases x.getLsbD i <;> cases y.getLsbD i <;> rfl
theorem join_to (x y : BitVec 32) : (y &&& ~~~x) ||| (x &&& y) = y := by
  apply BitVec.eq_of_getLsbD_eq; intro i hi
  rw [BitVec.getLsbD_or, andnot_bit y x i hi, BitVec.getLsbD_and]
  cases x.getLsbD i <;> cases y.getLsbD i <;> rfl
theorem join_both (x y : BitVec 32) : (x &&& ~~~y) ||| (y &&& ~~~x) ||| (x &&& y) = x ||| y := by
  apply BitVec.eq_of_getLsbD_eq; intro i hi
  rw [BitVec.getLsbD_or, BitVec.getLsbD_or, andnot_bit y x i hi, andnot_bit x y i hi, BitVec.getLsbD_and, BitVec.getLsbD_or]
  cases x.getLsbD i <;> cases y.getLsbD i <;> rfl
set_option maxHeartbeats 8000000 in
set_option maxRecDepth 100000 in
theorem law_tells (x y : BitVec 32) (i : Int) (w : World) : Calls Try.prog 6 #[.int .u32 (w32 x), .int .u32 (w32 y), .int .i64 i] w fun e w' => e = .returned (.bool true) ∧ Below w.heap.size w w' := by
  have HOf := Lib.hid (fun w => clsOf_any x y w)
  have HOr := Lib.hid (show ∀ w, Calls Try.prog 21 #[.int .u32 (w32 y), .int .u32 (w32 x)] w fun e w' => e = .returned (.agg #[.int .u32 (w32 (y &&& ~~~x)), .int .u32 (w32 (x &&& ~~~y)), .int .u32 (w32 (x &&& y))]) ∧ Below w.heap.size w w' from fun w => by
    have := clsOf_any y x w
    rwa [BitVec.and_comm y x] at this)
  have HK := Lib.hid (show kindB (x &&& ~~~y) (y &&& ~~~x) (x &&& y) i = (if hasB x i then 1 else 0) + (if hasB y i then 2 else 0) by
    unfold kindB
    rw [hasB_andnot, hasB_andnot, hasB_and]
    cases hasB x i <;> cases hasB y i <;> rfl)
  have HFr := Lib.hid (join_from x y)
  have HTo := Lib.hid (join_to x y)
  have HBo := Lib.hid (join_both x y)
  have HBit := Lib.hid (show ∀ k : Nat, hasB (x &&& ~~~y) k = (hasB x k && !hasB y k) ∧ hasB (y &&& ~~~x) k = (hasB y k && !hasB x k) ∧ hasB (x &&& y) k = (hasB x k && hasB y k) from fun k => ⟨hasB_andnot x y k, hasB_andnot y x k, hasB_and x y k⟩)
  have h3 := or32 x y
  obtain ⟨o, ho⟩ : ∃ o, x &&& ~~~y = o := ⟨_, rfl⟩
  obtain ⟨n, hn⟩ : ∃ n, y &&& ~~~x = n := ⟨_, rfl⟩
  obtain ⟨s, hs⟩ : ∃ s, x &&& y = s := ⟨_, rfl⟩
  rw [ho, hn, hs] at HOf HOr HBit HK HBo
  rw [ho, hs] at HFr
  rw [hn, hs] at HTo
  clear ho hn hs
  go_enter Try.func6, Try.ntmps6
  go_upto_region 2 with (go_at_call 21; refine (HOf.out _).mono ?_; rintro e w1 ⟨rfl, b1⟩; have H1 := Lib.hid b1; clear b1)
  obtain ⟨A, hA⟩ : ∃ A, A = w1.heap.size := ⟨_, rfl⟩
  rw [← hA]
  generalize hw2 : World.alloc _ _ = w2
  have H2 := Lib.hid (show Below w.heap.size w w2 ∧ RowAt w2 A 61 #[.int .u32 (w32 o), .int .u32 (w32 n), .int .u32 (w32 s)] by
    rw [← hw2, hA]
    exact ⟨H1.out.alloc H1.out.size _, RowAt.mk _ _ _⟩)
  clear hw2 hA H1
  go_wp2
  go_loopg [8] 32 (fun g v wr => ∃ k : Nat, k + g = 32 ∧ v = .int .i64 (k : Nat) ∧ Aside (w2 = wr))
  case atStart => exact ⟨0, by omega, rfl, rfl⟩
  case round =>
    obtain ⟨k, hkg, rfl, hw⟩ := hrel
    obtain rfl := hw.out
    clear hw
    have c0 : w2.cell? ⟨A, 0, none⟩ = some (.int .u32 (w32 o)) := H2.out.2.cell 0
    have c1 : w2.cell? ⟨A, 1, none⟩ = some (.int .u32 (w32 n)) := H2.out.2.cell 1
    have c2 : w2.cell? ⟨A, 2, none⟩ = some (.int .u32 (w32 s)) := H2.out.2.cell 2
    cases gk with
    | zero =>
      obtain rfl : k = 32 := by omega
      clear HBit h3
      have HX := Lib.hid (has10_any x i w2)
      have HY := Lib.hid (has10_any y i w2)
      obtain ⟨a, ha⟩ : ∃ a, hasB x i = a := ⟨_, rfl⟩
      obtain ⟨b, hb⟩ : ∃ b, hasB y i = b := ⟨_, rfl⟩
      rw [ha] at HX HK
      rw [hb] at HY HK
      clear ha hb
      have h3 := or32 x y
      have HKi := Lib.hid (fun w => clsKind_any o n s i w)
      rw [HK.out] at HKi
      have HFi := Lib.hid (fun w => clsFrom_any o n s w)
      rw [HFr.out] at HFi
      have HTi := Lib.hid (fun w => clsTo_any o n s w)
      rw [HTo.out] at HTi
      have HBi := Lib.hid (fun w => clsBoth_any o n s w)
      rw [HBo.out] at HBi
      have HCi := Lib.hid (fun w => clsBack_any o n s w)
      have HAl := Lib.hid (fun w => l14alive_any w)
      clear HK HFr HTo HBo HOf
      cases a
      all_goals
        cases b
        all_goals
          simp only [Bool.false_eq_true, if_false, if_true, Int.zero_add, Int.add_zero, Int.reduceAdd] at HKi
          go_wp2_with (first
            | (go_at_call 22; refine HX.out.mono ?_; rintro e w' ⟨rfl, rfl⟩; clear HX)
            | (go_at_call 22; refine HY.out.mono ?_; rintro e w' ⟨rfl, rfl⟩; clear HY)
            | (go_at_call 23; refine (HKi.out _).mono ?_; rintro e w3 ⟨rfl, b3⟩; have H3 := Lib.hid (And.intro (H2.out.1.trans (b3.mono H2.out.1.size)) (H2.out.2.new b3)); clear b3 c0 c1 c2; have c0 : w3.cell? ⟨A, 0, none⟩ = some (.int .u32 (w32 o)) := H3.out.2.cell 0; have c1 : w3.cell? ⟨A, 1, none⟩ = some (.int .u32 (w32 n)) := H3.out.2.cell 1; have c2 : w3.cell? ⟨A, 2, none⟩ = some (.int .u32 (w32 s)) := H3.out.2.cell 2)
            | (go_at_call 24; refine (HFi.out _).mono ?_; rintro e w4 ⟨rfl, b4⟩; have H4 := Lib.hid (And.intro (H3.out.1.trans (b4.mono H3.out.1.size)) (H3.out.2.new b4)); clear b4 c0 c1 c2; have c0 : w4.cell? ⟨A, 0, none⟩ = some (.int .u32 (w32 o)) := H4.out.2.cell 0; have c1 : w4.cell? ⟨A, 1, none⟩ = some (.int .u32 (w32 n)) := H4.out.2.cell 1; have c2 : w4.cell? ⟨A, 2, none⟩ = some (.int .u32 (w32 s)) := H4.out.2.cell 2)
            | (go_at_call 25; refine (HTi.out _).mono ?_; rintro e w5 ⟨rfl, b5⟩; have H5 := Lib.hid (And.intro (H4.out.1.trans (b5.mono H4.out.1.size)) (H4.out.2.new b5)); clear b5 c0 c1 c2; have c0 : w5.cell? ⟨A, 0, none⟩ = some (.int .u32 (w32 o)) := H5.out.2.cell 0; have c1 : w5.cell? ⟨A, 1, none⟩ = some (.int .u32 (w32 n)) := H5.out.2.cell 1; have c2 : w5.cell? ⟨A, 2, none⟩ = some (.int .u32 (w32 s)) := H5.out.2.cell 2)
            | (go_at_call 26; refine (HBi.out _).mono ?_; rintro e w6 ⟨rfl, b6⟩; have H6 := Lib.hid (And.intro (H5.out.1.trans (b6.mono H5.out.1.size)) (H5.out.2.new b6)); clear b6 c0 c1 c2; have c0 : w6.cell? ⟨A, 0, none⟩ = some (.int .u32 (w32 o)) := H6.out.2.cell 0; have c1 : w6.cell? ⟨A, 1, none⟩ = some (.int .u32 (w32 n)) := H6.out.2.cell 1; have c2 : w6.cell? ⟨A, 2, none⟩ = some (.int .u32 (w32 s)) := H6.out.2.cell 2)
            | (go_at_call 27; refine (HCi.out _).mono ?_; rintro e w7 ⟨rfl, b7⟩; have H7 := Lib.hid (H6.out.1.trans (b7.mono H6.out.1.size)); clear b7)
            | (go_at_call 21; refine (HOr.out _).mono ?_; rintro e w8 ⟨rfl, b8⟩; have H8 := Lib.hid (H7.out.trans (b8.mono H7.out.size)); clear b8)
            | (go_at_call 28; refine (HAl.out _).mono ?_; rintro e w9 ⟨rfl, b9⟩; have H9 := Lib.hid (H8.out.trans (b9.mono H8.out.size)); clear b9)
            | fail)
          go_ret
          exact ⟨rfl, H9.out⟩
    | succ g1 =>
      have hk : k < 32 := by omega
      have hk2 : (k : Int) < 32 := by omega
      obtain ⟨hb1, hb2, hb3⟩ := HBit.out k
      have HX := Lib.hid (has10_any x k w2)
      have HY := Lib.hid (has10_any y k w2)
      have HO := Lib.hid (has10_any o k w2)
      have HN := Lib.hid (has10_any n k w2)
      have HS := Lib.hid (has10_any s k w2)
      rw [hb1] at HO
      rw [hb2] at HN
      rw [hb3] at HS
      obtain ⟨a, ha⟩ : ∃ a, hasB x k = a := ⟨_, rfl⟩
      obtain ⟨b, hb⟩ : ∃ b, hasB y k = b := ⟨_, rfl⟩
      rw [ha] at HX HO HN HS
      rw [hb] at HY HO HN HS
      clear ha hb hb1 hb2 hb3
      cases a
      all_goals
        cases b
        all_goals
          simp only [Bool.not_true, Bool.not_false, Bool.and_true, Bool.and_false] at HO HN HS
          go_wp2_with (first
            | (go_at_call 22; refine HX.out.mono ?_; rintro e w' ⟨rfl, rfl⟩; clear HX)
            | (go_at_call 22; refine HY.out.mono ?_; rintro e w' ⟨rfl, rfl⟩; clear HY)
            | (go_at_call 22; refine HO.out.mono ?_; rintro e w' ⟨rfl, rfl⟩; clear HO)
            | (go_at_call 22; refine HN.out.mono ?_; rintro e w' ⟨rfl, rfl⟩; clear HN)
            | (go_at_call 22; refine HS.out.mono ?_; rintro e w' ⟨rfl, rfl⟩; clear HS)
            | fail)
          go_roundg g1
          case measure => omega
          case rel => exact ⟨k + 1, by omega, by go_num, rfl⟩
end Go.Proofs.Ytomdcmdgcnhnmaa
