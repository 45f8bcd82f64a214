/- The walk of CrcSums: true for every slice of bytes and every slice of words. -/
import Derived.Test.YtkfaccbabagooaaAdds0
namespace Go.Proofs.Ytkfaccbabagooaa
open Go.RowKit

theorem rowB_get (l : List (BitVec 8)) (j : Nat) (h : j < l.length) : (rowB l)[j]? = some (.int .u8 (w8 (nthB l j))) := by
  unfold rowB nthB
  rw [List.getElem?_map, List.getElem?_eq_getElem h]; simp [h]
theorem bytesOf_len (l : List (BitVec 32)) : (bytesOf l).length = 4 * l.length := by
  induction l with
  | nil => rfl
  | cons w l ih =>
    have : bytesOf (w :: l) = part w 0 :: part w 1 :: part w 2 :: part w 3 :: bytesOf l := rfl
    rw [this]; simp [ih]; omega

/-- The reference's sum over the row that its Bytes has made. -/
theorem refsum_row (l : List (BitVec 32)) (v : Value) (base : Nat) (w : World) (hl : l.length ≤ 500) (h : w.ownsRow base 5 1 v (4 * l.length) (rowB (bytesOf l))) :
    Calls Try.prog 8 #[v] w fun e w' => e = .returned (.int .u32 (w32 (crcW l))) ∧ w = w' := by
  have hlen := bytesOf_len l
  rcases h.2 with ⟨rfl, h0⟩ | ⟨g, cap, cur, rfl, _⟩
  · have := refsum_any 0 0 0 none (bytesOf l) w (by omega) (fun h => by omega) (fun k hk => by omega)
    rw [hlen, h0, crcB_bytes] at this
    exact this
  · have := refsum_any g 0 cap (some ⟨g, 0, none⟩) (bytesOf l) w (by omega) (fun _ => rfl) (fun k hk => by
      rw [Nat.zero_add]; exact (h.cellAt k (by omega)).trans (rowB_get _ k hk))
    rw [hlen, crcB_bytes] at this
    exact this

theorem law_sums (bb offb cb : Nat) (sb : Option Addr) (bl offl cl : Nat) (sl : Option Addr) (b : List (BitVec 8)) (l : List (BitVec 32)) (w : World)
    (hmb : b.length ≤ 9223372036854775807) (hml : l.length ≤ 9223372036854775807)
    (hsb : 0 < b.length → sb = some ⟨bb, offb, none⟩ ∧ bb < w.heap.size) (hsl : 0 < l.length → sl = some ⟨bl, offl, none⟩ ∧ bl < w.heap.size)
    (hb : ∀ k, k < b.length → w.cell? ⟨bb, offb + k, none⟩ = some (.int .u8 (w8 (nthB b k))))
    (hl : ∀ k, k < l.length → w.cell? ⟨bl, offl + k, none⟩ = some (.int .u32 (w32 (nthW l k)))) :
    Calls Try.prog 3 #[.slice sb b.length cb, .slice sl l.length cl] w fun e w' => e = .returned (.bool true) ∧ Below w.heap.size w w' := by
  by_cases hn1 : 2000 < b.length
  · have h1 : ((2000 : Int) < (b.length : Int)) := by omega
    go_enter Try.func3, Try.ntmps3
    go_wp2
    go_ret
    exact ⟨rfl, Below.refl _ _⟩
  by_cases hn2 : 500 < l.length
  · have h1 : ((2000 : Int) < (b.length : Int)) = False := by simp; omega
    have h2 : ((500 : Int) < (l.length : Int)) := by omega
    go_enter Try.func3, Try.ntmps3
    go_wp2
    go_ret
    exact ⟨rfl, Below.refl _ _⟩
  have h1 : ((2000 : Int) < (b.length : Int)) = False := by simp; omega
  have h2 : ((500 : Int) < (l.length : Int)) = False := by simp; omega
  have HB := Lib.hid hb
  have HL := Lib.hid hl
  have HSB := Lib.hid hsb
  have HSL := Lib.hid hsl
  have CSum := Lib.hid (sum_any bb offb cb sb b w (by omega) hsb hb)
  have CRef0 : ∀ wz : World, Below w.heap.size w wz → Calls Try.prog 8 #[.slice sb b.length cb] wz fun e w'' => e = .returned (.int .u32 (w32 (crcB b))) ∧ wz = w'' := fun wz hz =>
    refsum_any bb offb cb sb b wz (by omega) (fun h => (HSB.out h).1) (fun k hk => by rw [hz.cell (p := ⟨bb, offb + k, none⟩) (HSB.out (by omega)).2]; exact HB.out k hk)
  have CByt0 : ∀ wz : World, Below w.heap.size w wz → Calls Try.prog 9 #[.slice sl l.length cl] wz fun e w'' => ∃ v, e = .returned v ∧ w''.ownsRow wz.heap.size 5 1 v (4 * l.length) (rowB (bytesOf l)) ∧ Below wz.heap.size wz w'' := fun wz hz =>
    refbytes_any bl offl cl sl l wz (by omega) (fun h => ⟨(HSL.out h).1, by have := (HSL.out h).2; have := hz.size; omega⟩) (fun k hk => by rw [hz.cell (p := ⟨bl, offl + k, none⟩) (HSL.out (by omega)).2]; exact HL.out k hk)
  have CWrd0 : ∀ wz : World, Below w.heap.size w wz → Calls Try.prog 12 #[.slice sl l.length cl] wz fun e w'' => e = .returned (.int .u32 (w32 (crcW l))) ∧ Below wz.heap.size wz w'' := fun wz hz =>
    words_any bl offl cl sl l wz (by omega) (fun h => ⟨(HSL.out h).1, by have := (HSL.out h).2; have := hz.size; omega⟩) (fun k hk => by rw [hz.cell (p := ⟨bl, offl + k, none⟩) (HSL.out (by omega)).2]; exact HL.out k hk)
  have CRef := Lib.hid CRef0
  have CByt := Lib.hid CByt0
  have CWrd := Lib.hid CWrd0
  clear hb hl hsb hsl CRef0 CByt0 CWrd0
  have hvb : w32 (~~~runB ones b) = w32 (crcB b) := rfl
  have hvl : w32 (~~~runW ones l) = w32 (crcW l) := rfl
  go_enter Try.func3, Try.ntmps3
  go_wp2_with fail
  refine CSum.out.mono ?_
  rintro e w1 ⟨rfl, hS, hb1, hz1⟩
  have HS1 := Lib.hid hS
  have HB1 := Lib.hid hb1
  have hX := Lib.hid (sum_new w1)
  have hX0 := Lib.hid (show Below w1.heap.size w1 (w1.alloc (.cells #[.int .u32 0, .int .i64 0] 28)) from (Below.refl _ _).alloc (Nat.le_refl _) _)
  have Z1 := Lib.hid hz1
  clear hS hb1 hz1
  go_wp2
  go_loopg [7] l.length (fun n i wr => ∃ (k : Nat), k + n = l.length ∧ i = .int .i64 k ∧ Aside (SumAt wr w1.heap.size (runW ones (l.take k)) ((4 * k : Nat) : Int) ∧ Below w1.heap.size w1 wr ∧ w1.heap.size < wr.heap.size))
  case atStart => exact ⟨0, by omega, rfl, by simpa [runW] using hX.out, hX0.out, by simp⟩
  case round =>
    obtain ⟨k, hkg, rfl, HW⟩ := hrel
    cases gk with
    | zero =>
      obtain rfl : k = l.length := by omega
      have hW := HW.out
      rw [List.take_length] at hW
      have hbr : Below w.heap.size w wr := HB1.out.trans (hW.2.1.mono (by have := Z1.out; omega))
      have hSr : SumAt wr w.heap.size (runB ones b) b.length := HS1.out.below hW.2.1 (by have := Z1.out; omega)
      have HBR := Lib.hid hbr
      have HXR := Lib.hid hW
      have HSR := Lib.hid hSr
      clear hW hbr hSr HW
      go_wp2_with fail
      refine (CByt.out wr HBR.out).mono ?_
      rintro e w2 ⟨v, rfl, hown, hb2⟩
      have B2 := Lib.hid (HBR.out.trans (hb2.mono HBR.out.size))
      have S2 := Lib.hid (show SumAt w2 w.heap.size (runB ones b) b.length from HSR.out.below hb2 (by have := HXR.out.2.2; have := Z1.out; omega))
      have X2 := Lib.hid (show SumAt w2 w1.heap.size (runW ones l) ((4 * l.length : Nat) : Int) from HXR.out.1.below hb2 HXR.out.2.2)
      have L2 := Lib.hid (show w1.heap.size < w2.heap.size by have := HXR.out.2.2; have := hb2.size; omega)
      have O2 := Lib.hid hown
      clear hown hb2
      go_wp2_with fail
      refine (refsum_row l v _ w2 (by omega) O2.out).mono ?_
      rintro e w3 ⟨rfl, rfl⟩
      go_wp2_with fail
      refine (value_any _ _ _ _ S2.out).mono ?_
      rintro e w4 ⟨rfl, rfl⟩
      go_wp2_with fail
      refine (CRef.out _ B2.out).mono ?_
      rintro e w5 ⟨rfl, rfl⟩
      go_wp2_with fail
      refine (many_any _ _ _ _ S2.out).mono ?_
      rintro e w6 ⟨rfl, rfl⟩
      go_wp2_with fail
      refine (CWrd.out _ B2.out).mono ?_
      rintro e w7 ⟨rfl, hb7⟩
      have B7 := Lib.hid (B2.out.trans (hb7.mono B2.out.size))
      have X7 := Lib.hid (show SumAt w7 w1.heap.size (runW ones l) ((4 * l.length : Nat) : Int) from X2.out.below hb7 L2.out)
      clear hb7
      go_wp2_with fail
      refine (value_any _ _ _ _ X7.out).mono ?_
      rintro e w8 ⟨rfl, rfl⟩
      go_wp2_with fail
      refine (many_any _ _ _ _ X7.out).mono ?_
      rintro e w9 ⟨rfl, rfl⟩
      go_wp2_with fail
      refine (alive_any _).mono ?_
      rintro e wa ⟨rfl, hba⟩
      have BA := Lib.hid (B7.out.trans (hba.mono B7.out.size))
      clear hba
      go_wp2
      go_ret
      exact ⟨rfl, BA.out⟩
    | succ g1 =>
      have hlt : k < l.length := by omega
      obtain ⟨rfl, hbl⟩ := HSL.out (by omega)
      have hc : wr.cell? ⟨bl, offl + k, none⟩ = some (.int .u32 (w32 (nthW l k))) := by
        rw [HW.out.2.1.cell (p := ⟨bl, offl + k, none⟩) (show bl < w1.heap.size by have := Z1.out; omega), HB1.out.cell (p := ⟨bl, offl + k, none⟩) hbl]; exact HL.out k hlt
      go_wp2_with (go_at_call 7; refine (word_any w1.heap.size _ (nthW l k) _ (by omega) wr HW.out.1).mono ?_; rintro e w' ⟨rfl, hs, hb, hz⟩)
      go_roundg g1
      case measure => omega
      case rel =>
        refine ⟨k + 1, by omega, by go_num, ?_, HW.out.2.1.trans hb, by rw [hz]; exact HW.out.2.2⟩
        rw [runW_snoc _ _ _ hlt, show ((4 * (k + 1) : Nat) : Int) = ((4 * k : Nat) : Int) + 4 by omega]
        exact hs
end Go.Proofs.Ytkfaccbabagooaa
