/- The walk of DigitsPieces: true for every text. -/
import Derived.Test.YtnmejabmnapmpaaDoorCol2
import Derived.Test.YtnmejabmnapmpaaDoorRef2
import Derived.Test.YtnmejabmnapmpaaDoorLaws
namespace Go.Proofs.YtnmejabmnapmpaaDoor
open Go.RowKit

theorem drewn_own {A B : World} {base : Nat} {v : Value} {n : Nat} {xs : List Value} (h : A.ownsRow base 9 1 v n xs) (hd : Drewn A B) : B.ownsRow base 9 1 v n xs := below_own h hd.below

set_option maxHeartbeats 2000000 in
theorem law_pieces (s : ByteArray) (w : World) (ht : Tab w) (hs : s.size ≤ 9223372036854775807) :
    Calls Tryd.prog 5 #[.string s] w fun e w' => e = .returned (.bool true) ∧ Below w.heap.size w w' := by
  by_cases h5 : s.size ≤ 5000
  · have hs5 : (s.size : Int) ≤ 5000 := by omega
    obtain ⟨L, hL⟩ : ∃ L, L = ps s.data.toList := ⟨_, rfl⟩
    obtain ⟨M, hM⟩ : ∃ M, M = lin s.data.toList := ⟨_, rfl⟩
    have HR1 := fun w' => Lib.hid (refpieces_any s w' h5)
    have HR2 := fun w' => Lib.hid (reflines_any s w' h5)
    have HP := fun w' => Lib.hid (pieces_law s h5 w')
    have HLn := fun w' => Lib.hid (lines_law s h5 w')
    have HF := fun w' => Lib.hid (first_law s h5 w')
    rw [show pcs (segs 32 s.data.toList) = L from hL.symm] at HP HF
    rw [← hL] at HR1
    rw [← hM] at HR2 HLn
    have hcL : L.length ≤ 5001 := by
      have h1 := pcs_count 32 s.data.toList
      have h8 : s.data.toList.length = s.size := by simp
      rw [hL]; unfold ps; omega
    have hcM : M.length ≤ 5000 := by
      have h1 := lns_count s.data.toList
      have h8 : s.data.toList.length = s.size := by simp
      rw [hM, lin_len]; omega
    clear hL hM
    go_enter Tryd.func5, Tryd.ntmps5
    go_wp2_with fail
    refine (HR1 _).out.mono ?_
    rintro e w1 ⟨v1, rfl, o1, b1⟩
    obtain ⟨sp1, c1, rfl⟩ := own_val o1
    obtain ⟨P, hP⟩ : ∃ P, P = bs (at_ L 0) := ⟨_, rfl⟩
    rw [← hP] at HF
    have ht1 := ht.below b1
    clear ht
    have O1 := Lib.hid o1
    by_cases hn : 0 < L.length
    · have hn1 : (0 : Int) < (L.length : Int) := by omega
      obtain ⟨g, rfl, hcell⟩ := own_at o1 0 hn
      have hx : (strs L)[0]? = some (.string P) := by rw [hP]; simp [strs, at_, hn]
      rw [hx] at hcell
      clear hx hP o1
      go_wp2_with fail
      refine (HP _).out.mono ?_
      rintro e w2 ⟨v2, rfl, o2, b2⟩
      obtain ⟨sp2, c2, rfl⟩ := own_val o2
      have O1' := below_own O1.out b2
      have hB2 := btr b1 b2
      have ht2 := ht1.below b2
      clear O1 ht1 b1 b2
      go_wp2_with fail
      refine (same_any _ _ _ _ _ _ _ L _ (by omega) rfl o2 O1').mono ?_
      rintro e w3 ⟨rfl, d3⟩
      have O1 := drewn_own O1' d3
      have hB3 := btr hB2 d3.below
      have ht3 := ht2.below d3.below
      clear O1' o2 hB2 ht2 d3
      go_wp2_with fail
      refine (HF _).out.mono ?_
      rintro e w4 ⟨rfl, b4⟩
      have hB4 := btr hB3 b4
      have ht4 := ht3.below b4
      clear O1 hB3 ht3 b4
      go_wp2_with fail
      refine (HLn _).out.mono ?_
      rintro e w5 ⟨v5, rfl, o5, b5⟩
      obtain ⟨sp5, c5, rfl⟩ := own_val o5
      have O5 := Lib.hid o5
      have hB5 := btr hB4 b5
      have ht5 := ht4.below b5
      clear o5 hB4 ht4 b5
      go_wp2_with fail
      refine (HR2 _).out.mono ?_
      rintro e w6 ⟨v6, rfl, o6, b6⟩
      obtain ⟨sp6, c6, rfl⟩ := own_val o6
      have O5' := below_own O5.out b6
      have hB6 := btr hB5 b6
      have ht6 := ht5.below b6
      clear O5 hB5 ht5 b6
      go_wp2_with fail
      refine (same_any _ _ _ _ _ _ _ M _ (by omega) rfl O5' o6).mono ?_
      rintro e w7 ⟨rfl, d7⟩
      have hB7 := btr hB6 d7.below
      have ht7 := ht6.below d7.below
      clear O5' o6 hB6 ht6 d7
      go_wp2_with fail
      refine (alive_any _ ht7).mono ?_
      rintro e w8 ⟨rfl, b8⟩
      have hB8 := btr hB7 b8
      clear hB7 ht7 b8
      go_wp2_with fail
      go_ret
      exact ⟨rfl, hB8⟩
    · have hn1 : (L.length : Int) ≤ 0 := by omega
      have hL0 : L = [] := List.eq_nil_of_length_eq_zero (by omega)
      have hP0 : P = ByteArray.empty := by rw [hP, hL0]; rfl
      subst hP0
      clear hP o1 hL0
      go_wp2_with fail
      refine (HP _).out.mono ?_
      rintro e w2 ⟨v2, rfl, o2, b2⟩
      obtain ⟨sp2, c2, rfl⟩ := own_val o2
      have O1' := below_own O1.out b2
      have hB2 := btr b1 b2
      have ht2 := ht1.below b2
      clear O1 ht1 b1 b2
      go_wp2_with fail
      refine (same_any _ _ _ _ _ _ _ L _ (by omega) rfl o2 O1').mono ?_
      rintro e w3 ⟨rfl, d3⟩
      have O1 := drewn_own O1' d3
      have hB3 := btr hB2 d3.below
      have ht3 := ht2.below d3.below
      clear O1' o2 hB2 ht2 d3
      go_wp2_with fail
      refine (HF _).out.mono ?_
      rintro e w4 ⟨rfl, b4⟩
      have hB4 := btr hB3 b4
      have ht4 := ht3.below b4
      clear O1 hB3 ht3 b4
      go_wp2_with fail
      refine (HLn _).out.mono ?_
      rintro e w5 ⟨v5, rfl, o5, b5⟩
      obtain ⟨sp5, c5, rfl⟩ := own_val o5
      have O5 := Lib.hid o5
      have hB5 := btr hB4 b5
      have ht5 := ht4.below b5
      clear o5 hB4 ht4 b5
      go_wp2_with fail
      refine (HR2 _).out.mono ?_
      rintro e w6 ⟨v6, rfl, o6, b6⟩
      obtain ⟨sp6, c6, rfl⟩ := own_val o6
      have O5' := below_own O5.out b6
      have hB6 := btr hB5 b6
      have ht6 := ht5.below b6
      clear O5 hB5 ht5 b6
      go_wp2_with fail
      refine (same_any _ _ _ _ _ _ _ M _ (by omega) rfl O5' o6).mono ?_
      rintro e w7 ⟨rfl, d7⟩
      have hB7 := btr hB6 d7.below
      have ht7 := ht6.below d7.below
      clear O5' o6 hB6 ht6 d7
      go_wp2_with fail
      refine (alive_any _ ht7).mono ?_
      rintro e w8 ⟨rfl, b8⟩
      have hB8 := btr hB7 b8
      clear hB7 ht7 b8
      go_wp2_with fail
      go_ret
      exact ⟨rfl, hB8⟩
  · have hs5 : (5000 : Int) < (s.size : Int) := by omega
    go_enter Tryd.func5, Tryd.ntmps5
    go_wp2
    go_ret
    exact ⟨rfl, Below.refl _ _⟩

end Go.Proofs.YtnmejabmnapmpaaDoor
