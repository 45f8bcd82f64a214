/- The contracts of the reference's cut, Pieces and Lines, and of the law's same. -/
import Derived.Test.YtnmejabmnapmpaaDoorLns
namespace Go.Proofs.YtnmejabmnapmpaaDoor
open Go.RowKit

def cutR : List UInt8 → List UInt8
  | [] => []
  | x :: l => if x = 35 then [] else x :: cutR l
theorem cut35_eq (l : List UInt8) : cut35 l = cutR l := by
  induction l with
  | nil => rfl
  | cons x l ih =>
    have hge := Lib.indexByte_ge l 35
    simp only [cutR]
    by_cases hx : x = 35
    · have hi : Lib.indexByte (x :: l) 35 = 0 := by simp [Lib.indexByte, hx]
      unfold cut35
      rw [hi, if_pos hx]; rfl
    · rw [if_neg hx]
      by_cases h1 : Lib.indexByte l 35 = -1
      · have hi : Lib.indexByte (x :: l) 35 = -1 := by simp [Lib.indexByte, hx, h1]
        unfold cut35 at ih ⊢
        rw [h1] at ih
        rw [hi]
        rw [← ih]; rfl
      · have hi : Lib.indexByte (x :: l) 35 = Lib.indexByte l 35 + 1 := by simp [Lib.indexByte, hx, h1]
        unfold cut35 at ih ⊢
        rw [if_pos (show (0 : Int) ≤ Lib.indexByte l 35 by omega)] at ih
        rw [hi, if_pos (by omega), ← ih, show (Lib.indexByte l 35 + 1).toNat = (Lib.indexByte l 35).toNat + 1 by omega]
        rfl

theorem ret_str {a b : ByteArray} (h : a = b) : Ending.returned (.string a) = .returned (.string b) := by rw [h]

theorem refcut_any (s : ByteArray) (w : World) (hs : s.size ≤ 9223372036854775806) : Calls Tryd.prog 25 #[.string s] w fun e w' => e = .returned (.string (bs (cut35 s.data.toList))) ∧ w = w' := by
  rw [cut35_eq]
  go_enter Tryd.func25, Tryd.ntmps25
  go_wp2
  go_loopg [3] s.size (fun g i wr => ∃ (k : Nat), k + g = s.size ∧ i = .int .i64 k ∧ Aside (cutR s.data.toList = s.data.toList.take k ++ cutR (s.data.toList.drop k)) ∧ Aside (w = wr))
  case atStart => exact ⟨0, by omega, rfl, by show cutR _ = _; simp, rfl⟩
  case round =>
    obtain ⟨k, hkg, rfl, HI, hw⟩ := hrel
    obtain rfl := hw.out
    clear hw
    cases gk with
    | zero =>
      obtain rfl : k = s.size := by omega
      go_wp2
      go_ret
      have h := HI.out
      rw [List.take_of_length_le (by simp), List.drop_of_length_le (by simp)] at h
      exact ⟨ret_str (by rw [h, show cutR [] = [] from rfl, List.append_nil, bs_self]), rfl⟩
    | succ g1 =>
      have hlt : k < s.size := by omega
      have hk1 : (k : Int) < (s.size : Int) := by omega
      by_cases hc : s[k] = 35
      · have hb : ((s[k].toNat : Int) == 35) = true := by rw [hc]; rfl
        have HC : Aside (s[k] = 35) := hc
        clear hc
        have hcut : bs (cutR s.data.toList) = s.extract 0 k := by
          rw [HI.out, drop_cons s k hlt, HC.out, ← bs_extract]; simp [cutR]
        have HX := Lib.hid hcut
        clear hcut
        go_wp2
        go_ret
        exact ⟨ret_str HX.out.symm, rfl⟩
      · have hb : ((s[k].toNat : Int) == 35) = false := by
          rw [Bool.eq_false_iff]; intro h
          apply hc
          have h' : (s[k].toNat : Int) = 35 := by simpa using h
          have : s[k].toNat = 35 := by omega
          exact UInt8.toNat_inj.1 this
        have HC : Aside (s[k] ≠ 35) := hc
        clear hc
        go_wp2
        go_roundg g1
        case measure => omega
        case rel =>
          refine ⟨k + 1, by omega, by go_num, ?_, rfl⟩
          show cutR _ = _
          rw [HI.out, drop_cons s k hlt, take_snoc s k hlt, cutR, if_neg HC.out]; simp


def nb (c : UInt8) : Bool := c != 32
def ps (l : List UInt8) : List (List UInt8) := pcs (segs 32 l)
theorem ps_blank (r : List UInt8) : ps (32 :: r) = ps r := by
  unfold ps; simp [segs, pcs, some_]
theorem segs_tw (r : List UInt8) : segs 32 r = r.takeWhile nb :: (match r.dropWhile nb with | [] => [] | _ :: r' => segs 32 r') := by
  induction r with
  | nil => rfl
  | cons c r ih =>
    by_cases hc : c = 32
    · subst hc; simp [segs, nb]
    · have hn : nb c = true := by simp [nb, hc]
      simp only [segs]
      rw [if_neg hc, List.takeWhile_cons_of_pos hn, List.dropWhile_cons_of_pos hn, ih]
theorem ps_word (c : UInt8) (r : List UInt8) (hc : c ≠ 32) : ps (c :: r) = (c :: r.takeWhile nb) :: ps (r.dropWhile nb) := by
  have hn : nb c = true := by simp [nb, hc]
  have h1 : ps (c :: r) = pcs ((c :: r.takeWhile nb) :: (match r.dropWhile nb with | [] => [] | _ :: r' => segs 32 r')) := by
    unfold ps; rw [segs_tw (c :: r), List.takeWhile_cons_of_pos hn, List.dropWhile_cons_of_pos hn]
  rw [h1]
  have h2 : pcs (match r.dropWhile nb with | [] => [] | _ :: r' => segs 32 r') = ps (r.dropWhile nb) := by
    cases hd : r.dropWhile nb with
    | nil => rfl
    | cons x r' =>
      have hx : nb x = false := by
        have := List.head?_dropWhile_not nb r
        rw [hd] at this; simpa using this
      have hx' : x = 32 := by simpa [nb] using hx
      rw [hx', ps_blank]; rfl
  rw [← h2]
  unfold pcs
  rw [List.filter_cons_of_pos (by simp [some_])]
/-- What is still to come at place i, behind a blank or not. -/
def rem (b : Bool) (l : List UInt8) : List (List UInt8) := if b then ps (l.dropWhile nb) else ps l
theorem rem_blank (b : Bool) (r : List UInt8) : rem b (32 :: r) = rem false r := by
  unfold rem; cases b <;> simp [nb, ps_blank]
theorem rem_in (c : UInt8) (r : List UInt8) (hc : c ≠ 32) : rem true (c :: r) = rem true r := by
  have hn : nb c = true := by simp [nb, hc]
  unfold rem; simp [List.dropWhile_cons_of_pos hn]
theorem rem_word (c : UInt8) (r : List UInt8) (hc : c ≠ 32) : rem false (c :: r) = (c :: r.takeWhile nb) :: rem true r := by
  unfold rem; simp [ps_word c r hc]


theorem at_drop0 {L : List (List UInt8)} {n : Nat} {h : List UInt8} {t : List (List UInt8)} (e : L.drop n = h :: t) : n < L.length ∧ at_ L n = h ∧ L.drop (n + 1) = t := by
  have h1 := at_drop e.symm
  refine ⟨?_, h1.1, h1.2.symm⟩
  by_cases hn : n < L.length
  · exact hn
  · rw [List.drop_of_length_le (by omega)] at e; cases e
theorem drop_all (s : ByteArray) : s.data.toList.drop s.size = [] := List.drop_of_length_le (by simp)
theorem tw_take (s : ByteArray) (i j : Nat) (hj : i + j = s.size ∨ ∃ h : i + j < s.size, s[i + j] = 32)
    (hp : (s.data.toList.drop i).takeWhile nb = (s.data.toList.drop i).take j ++ (s.data.toList.drop (i + j)).takeWhile nb) :
    (s.data.toList.drop i).takeWhile nb = (s.data.toList.drop i).take j := by
  rw [hp]
  rcases hj with h | ⟨h, hc⟩
  · rw [h, drop_all]; simp
  · rw [drop_cons s (i + j) h, hc]; simp [nb]
theorem tw_step (s : ByteArray) (i j : Nat) (h : i + j < s.size) (hc : s[i + j] ≠ 32)
    (hp : (s.data.toList.drop i).takeWhile nb = (s.data.toList.drop i).take j ++ (s.data.toList.drop (i + j)).takeWhile nb) :
    (s.data.toList.drop i).takeWhile nb = (s.data.toList.drop i).take (j + 1) ++ (s.data.toList.drop (i + (j + 1))).takeWhile nb := by
  have hn : nb s[i + j] = true := by simp [nb, hc]
  have hlen : j < (s.data.toList.drop i).length := by simp; omega
  rw [hp, drop_cons s (i + j) h, List.takeWhile_cons_of_pos hn, List.take_succ_eq_append_getElem hlen, List.getElem_drop]
  simp [Nat.add_assoc]
  rfl

set_option maxHeartbeats 2000000 in
theorem refpieces_any (s : ByteArray) (w : World) (hs : s.size ≤ 5000) : Calls Tryd.prog 15 #[.string s] w fun e w' =>
    ∃ v, e = .returned v ∧ w'.ownsRow w.heap.size 9 1 v (ps s.data.toList).length (strs (ps s.data.toList)) ∧ Below w.heap.size w w' := by
  obtain ⟨i0, hi, hz0, hz1, hz2⟩ := info_parts info9
  obtain ⟨L, hL⟩ : ∃ L, L = ps s.data.toList := ⟨_, rfl⟩
  have hcount : L.length ≤ 5001 := by
    have h1 := pcs_count 32 s.data.toList
    have h8 : s.data.toList.length = s.size := by simp
    rw [hL]; unfold ps; omega
  have HL := Lib.hid hL
  rw [← hL]
  clear hL
  go_enter Tryd.func15, Tryd.ntmps15
  go_wp2
  go_loopg [3, 4] s.size (fun g v i wr => ∃ (k n : Nat), k + g = s.size ∧ i = .int .i64 k ∧ n ≤ L.length ∧ Aside (L.drop n = rem (decide (0 < k ∧ s.data.toList[k - 1]? ≠ some 32)) (s.data.toList.drop k)) ∧
    wr.ownsRow w.heap.size 9 1 v n (strs (L.take n)) ∧ Below w.heap.size w wr)
  case atStart => exact ⟨0, 0, by omega, rfl, by omega, by show L.drop 0 = _; rw [HL.out]; rfl, World.ownsRow_nil _ _ _ _, Below.refl _ _⟩
  case round =>
    obtain ⟨k, n, hkg, rfl, hn, HI, hown, hB⟩ := hrel
    cases gk with
    | zero =>
      obtain rfl : k = s.size := by omega
      have hn2 : n = L.length := by
        have h := HI.out
        rw [drop_all] at h
        have h2 := congrArg List.length h
        have h3 : rem (decide (0 < s.size ∧ s.data.toList[s.size - 1]? ≠ some 32)) [] = [] := by unfold rem; split <;> rfl
        rw [h3] at h2
        simp at h2; omega
      subst hn2
      rw [List.take_length] at hown
      have HO := Lib.hid hown
      have HB := Lib.hid hB
      clear hown hB
      go_wp2
      go_ret
      exact ⟨_, rfl, HO.out, HB.out⟩
    | succ g1 =>
      have hlt : k < s.size := by omega
      have hk1 : (k : Int) < (s.size : Int) := by omega
      have hD := Lib.hid (drop_cons s k hlt)
      have HO := Lib.hid hown
      have HB := Lib.hid hB
      clear hown hB
      have hlk : s.data.toList[k]? = some s[k] := by rw [List.getElem?_eq_getElem (by simpa using hlt)]; rfl
      have HK := Lib.hid hlk
      clear hlk
      by_cases hc : s[k] = 32
      · have hb : ((s[k].toNat : Int) == 32) = true := by rw [hc]; rfl
        have HC : Aside (s[k] = 32) := hc
        clear hc
        go_wp2
        go_roundg g1
        case measure => omega
        case rel =>
          refine ⟨k + 1, n, by omega, by go_num, hn, ?_, HO.out, HB.out⟩
          show L.drop n = _
          rw [HI.out, hD.out, HC.out, rem_blank]
          congr 1
          simp [HK.out, HC.out]
      · have hb : ((s[k].toNat : Int) == 32) = false := by
          rw [Bool.eq_false_iff]; intro h
          apply hc
          have h' : (s[k].toNat : Int) = 32 := by simpa using h
          exact UInt8.toNat_inj.1 (show s[k].toNat = 32 by omega)
        have HC : Aside (s[k] ≠ 32) := hc
        clear hc
        have hnext : decide (0 < k + 1 ∧ s.data.toList[k + 1 - 1]? ≠ some 32) = true := by
          rw [decide_eq_true_eq]
          refine ⟨by omega, ?_⟩
          rw [Nat.add_sub_cancel, HK.out]
          intro h; exact HC.out (Option.some.inj h)
        have HN := Lib.hid hnext
        clear hnext
        by_cases hp : 0 < k ∧ s.data.toList[k - 1]? ≠ some 32
        · obtain ⟨hp0, hp1⟩ := hp
          have hkm : k - 1 < s.size := by omega
          have hlk1 : s.data.toList[k - 1]? = some s[k - 1] := by rw [List.getElem?_eq_getElem (by simpa using hkm)]; rfl
          have hb1 : ((s[k - 1].toNat : Int) == 32) = false := by
            rw [Bool.eq_false_iff]; intro h
            apply hp1
            rw [hlk1]
            have h' : (s[k - 1].toNat : Int) = 32 := by simpa using h
            rw [UInt8.toNat_inj.1 (show s[k - 1].toNat = (32 : UInt8).toNat by rw [show (32 : UInt8).toNat = 32 from rfl]; omega)]
          have hb2 : ((s[k - 1].toNat : Int) != 32) = true := by simp [bne, hb1]
          have hk0 : (0 : Int) < (k : Int) := by omega
          have hk2 : (k : Int) - 1 < (s.size : Int) := by omega
          have HPv : Aside (decide (0 < k ∧ s.data.toList[k - 1]? ≠ some 32) = true) := by show decide _ = true; rw [decide_eq_true_eq]; exact ⟨hp0, hp1⟩
          clear hp1 hlk1
          go_wp2
          go_roundg g1
          case measure => omega
          case rel =>
            refine ⟨k + 1, n, by omega, by go_num, hn, ?_, HO.out, HB.out⟩
            show L.drop n = _
            rw [HN.out, HI.out, HPv.out, hD.out, rem_in _ _ HC.out]
        · have HPv : Aside (decide (0 < k ∧ s.data.toList[k - 1]? ≠ some 32) = false) := by show decide _ = false; rw [decide_eq_false_iff_not]; exact hp
          have HP := Lib.hid hp
          have hword : L.drop n = (s[k] :: (s.data.toList.drop (k + 1)).takeWhile nb) :: rem true (s.data.toList.drop (k + 1)) := by
            rw [HI.out, HPv.out, hD.out, rem_word _ _ HC.out]
          obtain ⟨hn1, hat, hdr⟩ := at_drop0 hword
          have htw : (s.data.toList.drop k).takeWhile nb = at_ L n := by
            rw [hat, hD.out, List.takeWhile_cons_of_pos (by simp [nb, HC.out])]
          have HTW := Lib.hid htw
          have HDR := Lib.hid hdr
          clear hword hat hdr htw hp
          have hcase : k = 0 ∨ (0 < k ∧ ∃ h : k - 1 < s.size, s[k - 1] = 32) := by
            by_cases h0 : k = 0
            · exact .inl h0
            · refine .inr ⟨by omega, by omega, ?_⟩
              have hkm : k - 1 < s.size := by omega
              have hlk1 : s.data.toList[k - 1]? = some s[k - 1] := by rw [List.getElem?_eq_getElem (by simpa using hkm)]; rfl
              have h2 : ¬ (s.data.toList[k - 1]? ≠ some 32) := fun h => HP.out ⟨by omega, h⟩
              rw [hlk1] at h2
              exact Option.some.inj (Decidable.not_not.1 h2)
          rcases hcase with h0 | ⟨h0, hkm, hpc⟩
          · have hk0 : (k : Int) ≤ 0 := by omega
            clear h0
            go_wp2
            go_loopg [5] (s.size - k) (fun g v wx => ∃ (j : Nat), j + g = s.size - k ∧ v = .int .i64 ((k + j : Nat) : Int) ∧ Aside ((s.data.toList.drop k).takeWhile nb = (s.data.toList.drop k).take j ++ (s.data.toList.drop (k + j)).takeWhile nb) ∧ Aside (wr = wx))
            case atStart => exact ⟨0, by omega, by simp, by show List.takeWhile _ _ = _; simp, rfl⟩
            case round =>
              obtain ⟨j, hjg, rfl, HT, hw⟩ := hrel
              obtain rfl := hw.out
              clear hw
              by_cases hgo : ∃ h : k + j < s.size, s[k + j] ≠ 32
              · obtain ⟨hj, hjc⟩ := hgo
                have hj1 : ((k + j : Nat) : Int) < (s.size : Int) := by omega
                have hb5 : ((s[k + j].toNat : Int) == 32) = false := by
                  rw [Bool.eq_false_iff]; intro h
                  apply hjc
                  have h' : (s[k + j].toNat : Int) = 32 := by simpa using h
                  exact UInt8.toNat_inj.1 (show s[k + j].toNat = 32 by omega)
                have hb6 : ((s[k + j].toNat : Int) != 32) = true := by simp [bne, hb5]
                have HJC : Aside (s[k + j] ≠ 32) := hjc
                clear hjc
                go_wp2
                go_roundg (gk - 1)
                case measure => omega
                case rel =>
                  exact ⟨j + 1, by omega, by push_cast; rw [Int.add_assoc], tw_step s k j hj HJC.out HT.out, rfl⟩
              · have hex0 : k + j = s.size ∨ ∃ h : k + j < s.size, s[k + j] = 32 := by
                  by_cases h1 : k + j < s.size
                  · exact .inr ⟨h1, Decidable.not_not.1 fun h => hgo ⟨h1, h⟩⟩
                  · exact .inl (by omega)
                have HX := Lib.hid hex0
                clear hgo
                rcases hex0 with h9 | ⟨h9, hjc⟩
                · have hj1 : (s.size : Int) ≤ ((k + j : Nat) : Int) := by omega
                  have hj2 : ((k + j : Nat) : Int) ≤ (s.size : Int) := by omega
                  clear h9
                  go_wp2_with (at_builtin; refine wpList_append_own _ rfl _ _ 37 rfl w.heap.size 9 i0 (.string ByteArray.empty) 1 16 Tryd.underlying37 hi hz0 hz1 hz2 rfl (by decide) _ _ _ rfl (HO.out.alloc _) ⟨wr.heap.size, 0, none⟩ 1 1 [.string (s.extract k (k + j))] rfl rfl (cell_one_new _ _ _) (by simp [Value.oneCell']) (by unfold maxLen; omega) (by omega) (by have := HB.out.size; simp; omega) ?_; intro v' w1 hown' hgrow _; have HO' := Lib.hid hown'; have HG := Lib.hid hgrow; clear hown' hgrow)
                  go_roundg g1
                  case measure => omega
                  case rel =>
                    have hex : s.extract k (k + j) = bs (at_ L n) := by
                      rw [← HTW.out, tw_take s k j HX.out HT.out, ← bs_extract]; congr 2; omega
                    refine ⟨k + 1, n + 1, by omega, by go_num, by omega, ?_, ?_, ?_⟩
                    · show L.drop (n + 1) = _
                      rw [HN.out, HDR.out]
                    · rw [strs_snoc L n hn1, ← hex]; exact HO'.out
                    · exact (HB.out.alloc HB.out.size _).grown HG.out (by have := HB.out.size; simp; omega) (fun q e => own_blk HO.out q e)
                · have hj1 : ((k + j : Nat) : Int) < (s.size : Int) := by omega
                  have hb5 : ((s[k + j].toNat : Int) == 32) = true := by rw [hjc]; rfl
                  have hb6 : ((s[k + j].toNat : Int) != 32) = false := by simp [bne, hb5]
                  clear hjc
                  go_wp2_with (at_builtin; refine wpList_append_own _ rfl _ _ 37 rfl w.heap.size 9 i0 (.string ByteArray.empty) 1 16 Tryd.underlying37 hi hz0 hz1 hz2 rfl (by decide) _ _ _ rfl (HO.out.alloc _) ⟨wr.heap.size, 0, none⟩ 1 1 [.string (s.extract k (k + j))] rfl rfl (cell_one_new _ _ _) (by simp [Value.oneCell']) (by unfold maxLen; omega) (by omega) (by have := HB.out.size; simp; omega) ?_; intro v' w1 hown' hgrow _; have HO' := Lib.hid hown'; have HG := Lib.hid hgrow; clear hown' hgrow)
                  go_roundg g1
                  case measure => omega
                  case rel =>
                    have hex : s.extract k (k + j) = bs (at_ L n) := by
                      rw [← HTW.out, tw_take s k j HX.out HT.out, ← bs_extract]; congr 2; omega
                    refine ⟨k + 1, n + 1, by omega, by go_num, by omega, ?_, ?_, ?_⟩
                    · show L.drop (n + 1) = _
                      rw [HN.out, HDR.out]
                    · rw [strs_snoc L n hn1, ← hex]; exact HO'.out
                    · exact (HB.out.alloc HB.out.size _).grown HG.out (by have := HB.out.size; simp; omega) (fun q e => own_blk HO.out q e)
          · have hb1 : ((s[k - 1].toNat : Int) == 32) = true := by rw [hpc]; rfl
            have hb2 : ((s[k - 1].toNat : Int) != 32) = false := by simp [bne, hb1]
            have hk0 : (0 : Int) < (k : Int) := by omega
            have hk2 : (k : Int) - 1 < (s.size : Int) := by omega
            clear hpc
            go_wp2
            go_loopg [5] (s.size - k) (fun g v wx => ∃ (j : Nat), j + g = s.size - k ∧ v = .int .i64 ((k + j : Nat) : Int) ∧ Aside ((s.data.toList.drop k).takeWhile nb = (s.data.toList.drop k).take j ++ (s.data.toList.drop (k + j)).takeWhile nb) ∧ Aside (wr = wx))
            case atStart => exact ⟨0, by omega, by simp, by show List.takeWhile _ _ = _; simp, rfl⟩
            case round =>
              obtain ⟨j, hjg, rfl, HT, hw⟩ := hrel
              obtain rfl := hw.out
              clear hw
              by_cases hgo : ∃ h : k + j < s.size, s[k + j] ≠ 32
              · obtain ⟨hj, hjc⟩ := hgo
                have hj1 : ((k + j : Nat) : Int) < (s.size : Int) := by omega
                have hb5 : ((s[k + j].toNat : Int) == 32) = false := by
                  rw [Bool.eq_false_iff]; intro h
                  apply hjc
                  have h' : (s[k + j].toNat : Int) = 32 := by simpa using h
                  exact UInt8.toNat_inj.1 (show s[k + j].toNat = 32 by omega)
                have hb6 : ((s[k + j].toNat : Int) != 32) = true := by simp [bne, hb5]
                have HJC : Aside (s[k + j] ≠ 32) := hjc
                clear hjc
                go_wp2
                go_roundg (gk - 1)
                case measure => omega
                case rel =>
                  exact ⟨j + 1, by omega, by push_cast; rw [Int.add_assoc], tw_step s k j hj HJC.out HT.out, rfl⟩
              · have hex0 : k + j = s.size ∨ ∃ h : k + j < s.size, s[k + j] = 32 := by
                  by_cases h1 : k + j < s.size
                  · exact .inr ⟨h1, Decidable.not_not.1 fun h => hgo ⟨h1, h⟩⟩
                  · exact .inl (by omega)
                have HX := Lib.hid hex0
                clear hgo
                rcases hex0 with h9 | ⟨h9, hjc⟩
                · have hj1 : (s.size : Int) ≤ ((k + j : Nat) : Int) := by omega
                  have hj2 : ((k + j : Nat) : Int) ≤ (s.size : Int) := by omega
                  clear h9
                  go_wp2_with (at_builtin; refine wpList_append_own _ rfl _ _ 37 rfl w.heap.size 9 i0 (.string ByteArray.empty) 1 16 Tryd.underlying37 hi hz0 hz1 hz2 rfl (by decide) _ _ _ rfl (HO.out.alloc _) ⟨wr.heap.size, 0, none⟩ 1 1 [.string (s.extract k (k + j))] rfl rfl (cell_one_new _ _ _) (by simp [Value.oneCell']) (by unfold maxLen; omega) (by omega) (by have := HB.out.size; simp; omega) ?_; intro v' w1 hown' hgrow _; have HO' := Lib.hid hown'; have HG := Lib.hid hgrow; clear hown' hgrow)
                  go_roundg g1
                  case measure => omega
                  case rel =>
                    have hex : s.extract k (k + j) = bs (at_ L n) := by
                      rw [← HTW.out, tw_take s k j HX.out HT.out, ← bs_extract]; congr 2; omega
                    refine ⟨k + 1, n + 1, by omega, by go_num, by omega, ?_, ?_, ?_⟩
                    · show L.drop (n + 1) = _
                      rw [HN.out, HDR.out]
                    · rw [strs_snoc L n hn1, ← hex]; exact HO'.out
                    · exact (HB.out.alloc HB.out.size _).grown HG.out (by have := HB.out.size; simp; omega) (fun q e => own_blk HO.out q e)
                · have hj1 : ((k + j : Nat) : Int) < (s.size : Int) := by omega
                  have hb5 : ((s[k + j].toNat : Int) == 32) = true := by rw [hjc]; rfl
                  have hb6 : ((s[k + j].toNat : Int) != 32) = false := by simp [bne, hb5]
                  clear hjc
                  go_wp2_with (at_builtin; refine wpList_append_own _ rfl _ _ 37 rfl w.heap.size 9 i0 (.string ByteArray.empty) 1 16 Tryd.underlying37 hi hz0 hz1 hz2 rfl (by decide) _ _ _ rfl (HO.out.alloc _) ⟨wr.heap.size, 0, none⟩ 1 1 [.string (s.extract k (k + j))] rfl rfl (cell_one_new _ _ _) (by simp [Value.oneCell']) (by unfold maxLen; omega) (by omega) (by have := HB.out.size; simp; omega) ?_; intro v' w1 hown' hgrow _; have HO' := Lib.hid hown'; have HG := Lib.hid hgrow; clear hown' hgrow)
                  go_roundg g1
                  case measure => omega
                  case rel =>
                    have hex : s.extract k (k + j) = bs (at_ L n) := by
                      rw [← HTW.out, tw_take s k j HX.out HT.out, ← bs_extract]; congr 2; omega
                    refine ⟨k + 1, n + 1, by omega, by go_num, by omega, ?_, ?_, ?_⟩
                    · show L.drop (n + 1) = _
                      rw [HN.out, HDR.out]
                    · rw [strs_snoc L n hn1, ← hex]; exact HO'.out
                    · exact (HB.out.alloc HB.out.size _).grown HG.out (by have := HB.out.size; simp; omega) (fun q e => own_blk HO.out q e)

end Go.Proofs.YtnmejabmnapmpaaDoor
