/- The law's alive, and the walks of DigitsNumbers and DigitsWords: true for every number, word and text. -/
import Derived.Test.YtnmejabmnapmpaaDoorCol
namespace Go.Proofs.YtnmejabmnapmpaaDoor
open Go.RowKit Go.Lib

theorem btr {a b c : World} (h : Below a.heap.size a b) (h' : Below b.heap.size b c) : Below a.heap.size a c := h.trans (h'.mono h.size)

theorem pieces_ex (w : World) : Calls Tryd.prog 17 #[.string ⟨#[32, 97, 32, 32, 98, 99]⟩] w fun e w' =>
    ∃ g cap, e = .returned (.slice (some ⟨g, 0, none⟩) 2 cap) ∧ w'.cell? ⟨g, 1, none⟩ = some (.string ⟨#[98, 99]⟩) ∧ w.heap.size ≤ g ∧ Below w.heap.size w w' := by
  refine (pieces_law ⟨#[32, 97, 32, 32, 98, 99]⟩ (by decide) w).mono ?_
  rintro e w' ⟨v, rfl, hown, hb⟩
  have hp : pcs (segs 32 ([32, 97, 32, 32, 98, 99] : List UInt8)) = [[97], [98, 99]] := by decide
  have hp' : pcs (segs 32 (⟨#[32, 97, 32, 32, 98, 99]⟩ : ByteArray).data.toList) = [[97], [98, 99]] := hp
  rw [hp'] at hown
  obtain ⟨g, cap, rfl⟩ := ownsRow_succ hown
  exact ⟨g, cap, rfl, by rw [hown.cellAt 1 (by decide)]; rfl, (hown.lt g rfl).1, hb⟩

theorem text_ex (w : World) (ht : Tab w) : Calls Tryd.prog 6 #[.int .i64 120] w fun e w' => e = .returned (.string ⟨#[49, 50, 48]⟩) ∧ Below w.heap.size w w' := by
  have h := text_any 120 w ht
  have e : decDigits (clamp 120) = [49, 50, 48] := by
    rw [show clamp 120 = 120 from rfl, dec_step (by decide), dec_step (m := 120 / 10) (by decide), decDigits_one (by decide)]; rfl
  rwa [e] at h
theorem word_ex (w : World) : Calls Tryd.prog 11 #[.int .u32 11] w fun e w' => e = .returned (.string ⟨#[48, 48, 48, 48, 48, 48, 48, 98]⟩) ∧ Below w.heap.size w w' := by
  have h := word_any 11 w (by decide)
  have e : wordT 11 = [48, 48, 48, 48, 48, 48, 48, 98] := by decide
  rwa [e] at h

theorem alive_any (w : World) (ht : Tab w) : Calls Tryd.prog 10 #[] w fun e w' => e = .returned (.bool true) ∧ Below w.heap.size w w' := by
  go_enter Tryd.func10, Tryd.ntmps10
  go_wp2_with fail
  refine (pieces_ex w).mono ?_
  rintro e w1 ⟨g, cap, rfl, hc, hg, hb⟩
  have ht1 := ht.below hb
  have hgl : g < w1.heap.size := by
    obtain ⟨o, ho, _⟩ := cells_of_cell hc
    exact (Array.getElem?_eq_some_iff.1 ho).1
  clear ht
  go_wp2_with (first
    | (go_at_call 6; refine (text_ex _ ht1).mono ?_; rintro e w2 ⟨rfl, hb2⟩; have hc2 := (hb2.cell (p := ⟨g, 1, none⟩) hgl).trans hc; have hs2 := hb2.size)
    | (go_at_call 11; refine (word_ex _).mono ?_; rintro e w3 ⟨rfl, hb3⟩; have hc3 := (hb3.cell (p := ⟨g, 1, none⟩) (show g < _ by omega)).trans hc2))
  go_ret
  exact ⟨rfl, btr (btr hb hb2) hb3⟩

theorem read_text (n : Int) (w : World) (ht : Tab w) : Calls Tryd.prog 7 #[.string ⟨(decDigits (clamp n)).toArray⟩] w fun e w' => e = .returned (.tuple #[.int .i64 (clamp n), .int .i64 0]) ∧ Below w.heap.size w w' := by
  have hl := dec_len (clamp n)
  have hc := clamp_le n
  have h := read_any ⟨(decDigits (clamp n)).toArray⟩ w ht (by simp [ByteArray.size]; omega)
  have e : rd (⟨(decDigits (clamp n)).toArray⟩ : ByteArray).data.toList = some (clamp n) := by
    show rd (decDigits (clamp n)).toArray.toList = _
    rw [List.toList_toArray]; exact rd_dec hc
  unfold rdEnd at h
  rw [e] at h
  exact h

theorem law_numbers (n : Int) (s : ByteArray) (w : World) (ht : Tab w) (hlo : -9223372036854775808 ≤ n) (hhi : n ≤ 9223372036854775807) (hs : s.size ≤ 9223372036854775807) :
    Calls Tryd.prog 3 #[.int .i64 n, .string s] w fun e w' => e = .returned (.bool true) ∧ Below w.heap.size w w' := by
  obtain ⟨a, f, haf⟩ : ∃ a f : Int, rdEnd s.data.toList = .returned (.tuple #[.int .i64 a, .int .i64 f]) := ⟨_, _, rfl⟩
  have HR := fun w' ht' => Lib.hid (read_any s w' ht' hs)
  have HF := fun w' => Lib.hid (refread_any s w' hs)
  have HX := fun w' => Lib.hid (reftext_any n w' hlo hhi)
  have HE := Lib.hid haf
  clear haf
  have hB : Below w.heap.size w w := Below.refl _ _
  have hc1 : n < 0 → clamp n = 0 := fun h => by unfold clamp; omega
  have hc2 : 2147483647 < n → clamp n = 2147483647 := fun h => by unfold clamp; omega
  have hc3 := @clamp_in n
  obtain ⟨c, hc⟩ : ∃ c, c = clamp n := ⟨_, rfl⟩
  have HT := fun w' ht' => Lib.hid (text_any n w' ht')
  have HTR := fun w' ht' => Lib.hid (read_text n w' ht')
  rw [← hc] at HT HTR HX hc1 hc2 hc3
  clear hc
  rcases Int.lt_or_le n 0 with h | h
  · have hz : ((c : Int) == 0) = true := by rw [hc1 h]; rfl
    clear hc1 hc2 hc3
    go_enter Tryd.func3, Tryd.ntmps3
    go_wp2_with (first
      | (go_at_call 6; (with_reducible refine (HT _ ht).out.mono ?_); rintro e w' ⟨rfl, hb⟩; replace hB := btr hB hb; replace ht := ht.below hb; clear hb)
      | (go_at_call 7; (with_reducible refine (HTR _ ht).out.mono ?_); rintro e w' ⟨rfl, hb⟩; replace hB := btr hB hb; replace ht := ht.below hb; clear hb)
      | (go_at_call 7; (with_reducible refine (HR _ ht).out.mono ?_); rintro e w' ⟨he, hb⟩; rw [HE.out] at he; subst he; replace hB := btr hB hb; replace ht := ht.below hb; clear hb)
      | (go_at_call 8; (with_reducible refine (HF _).out.mono ?_); rintro e w' ⟨he, hb⟩; rw [HE.out] at he; subst he; replace hB := btr hB hb; replace ht := ht.below hb; clear hb)
      | (go_at_call 9; (with_reducible refine (HX _).out.mono ?_); rintro e w' ⟨rfl, hb⟩; replace hB := btr hB hb; replace ht := ht.below hb; clear hb)
      | (go_at_call 10; (with_reducible refine (alive_any _ ht).mono ?_); rintro e w' ⟨rfl, hb⟩; replace hB := btr hB hb; replace ht := ht.below hb; clear hb))
    go_ret
    exact ⟨rfl, hB⟩
  rcases Int.lt_or_le 2147483647 n with h' | h'
  · have hz : ((c : Int) == 2147483647) = true := by rw [hc2 h']; rfl
    clear hc1 hc2 hc3
    go_enter Tryd.func3, Tryd.ntmps3
    go_wp2_with (first
      | (go_at_call 6; (with_reducible refine (HT _ ht).out.mono ?_); rintro e w' ⟨rfl, hb⟩; replace hB := btr hB hb; replace ht := ht.below hb; clear hb)
      | (go_at_call 7; (with_reducible refine (HTR _ ht).out.mono ?_); rintro e w' ⟨rfl, hb⟩; replace hB := btr hB hb; replace ht := ht.below hb; clear hb)
      | (go_at_call 7; (with_reducible refine (HR _ ht).out.mono ?_); rintro e w' ⟨he, hb⟩; rw [HE.out] at he; subst he; replace hB := btr hB hb; replace ht := ht.below hb; clear hb)
      | (go_at_call 8; (with_reducible refine (HF _).out.mono ?_); rintro e w' ⟨he, hb⟩; rw [HE.out] at he; subst he; replace hB := btr hB hb; replace ht := ht.below hb; clear hb)
      | (go_at_call 9; (with_reducible refine (HX _).out.mono ?_); rintro e w' ⟨rfl, hb⟩; replace hB := btr hB hb; replace ht := ht.below hb; clear hb)
      | (go_at_call 10; (with_reducible refine (alive_any _ ht).mono ?_); rintro e w' ⟨rfl, hb⟩; replace hB := btr hB hb; replace ht := ht.below hb; clear hb))
    go_ret
    exact ⟨rfl, hB⟩
  · have hz : (n == (c : Int)) = true := by rw [hc3 h h']; simp
    clear hc1 hc2 hc3
    go_enter Tryd.func3, Tryd.ntmps3
    go_wp2_with (first
      | (go_at_call 6; (with_reducible refine (HT _ ht).out.mono ?_); rintro e w' ⟨rfl, hb⟩; replace hB := btr hB hb; replace ht := ht.below hb; clear hb)
      | (go_at_call 7; (with_reducible refine (HTR _ ht).out.mono ?_); rintro e w' ⟨rfl, hb⟩; replace hB := btr hB hb; replace ht := ht.below hb; clear hb)
      | (go_at_call 7; (with_reducible refine (HR _ ht).out.mono ?_); rintro e w' ⟨he, hb⟩; rw [HE.out] at he; subst he; replace hB := btr hB hb; replace ht := ht.below hb; clear hb)
      | (go_at_call 8; (with_reducible refine (HF _).out.mono ?_); rintro e w' ⟨he, hb⟩; rw [HE.out] at he; subst he; replace hB := btr hB hb; replace ht := ht.below hb; clear hb)
      | (go_at_call 9; (with_reducible refine (HX _).out.mono ?_); rintro e w' ⟨rfl, hb⟩; replace hB := btr hB hb; replace ht := ht.below hb; clear hb)
      | (go_at_call 10; (with_reducible refine (alive_any _ ht).mono ?_); rintro e w' ⟨rfl, hb⟩; replace hB := btr hB hb; replace ht := ht.below hb; clear hb))
    go_ret
    exact ⟨rfl, hB⟩

theorem read_word (x : Nat) (hx4 : x < 4294967296) (w : World) : Calls Tryd.prog 12 #[.string ⟨(wordT x).toArray⟩] w fun e w' => e = .returned (.tuple #[.int .u32 x, .int .i64 0]) ∧ Below w.heap.size w w' := by
  have h := readword_any ⟨(wordT x).toArray⟩ w (by simp [ByteArray.size, wordT])
  have e : rdw (⟨(wordT x).toArray⟩ : ByteArray).data.toList = some x := by
    show rdw (wordT x).toArray.toList = _
    rw [List.toList_toArray]; exact rdw_word hx4
  unfold rdwEnd at h
  rw [e] at h
  exact h

theorem law_words (x : Nat) (hx4 : x < 4294967296) (s : ByteArray) (w : World) (ht : Tab w) (hs : s.size ≤ 9223372036854775807) :
    Calls Tryd.prog 4 #[.int .u32 x, .string s] w fun e w' => e = .returned (.bool true) ∧ Below w.heap.size w w' := by
  obtain ⟨a, f, haf⟩ : ∃ a f : Int, rdwEnd s.data.toList = .returned (.tuple #[.int .u32 a, .int .i64 f]) := ⟨_, _, rfl⟩
  have HR := fun w' => Lib.hid (readword_any s w' hs)
  have HF := fun w' => Lib.hid (refreadword_any s w' hs)
  have HX := fun w' => Lib.hid (refword_any x w' hx4)
  have HE := Lib.hid haf
  clear haf
  have hB : Below w.heap.size w w := Below.refl _ _
  have HT := fun w' => Lib.hid (word_any x w' hx4)
  have HTR := fun w' => Lib.hid (read_word x hx4 w')
  go_enter Tryd.func4, Tryd.ntmps4
  go_wp2_with (first
      | (go_at_call 11; (with_reducible refine (HT _).out.mono ?_); rintro e w' ⟨rfl, hb⟩; replace hB := btr hB hb; replace ht := ht.below hb; clear hb)
      | (go_at_call 12; (with_reducible refine (HTR _).out.mono ?_); rintro e w' ⟨rfl, hb⟩; replace hB := btr hB hb; replace ht := ht.below hb; clear hb)
      | (go_at_call 12; (with_reducible refine (HR _).out.mono ?_); rintro e w' ⟨he, hb⟩; rw [HE.out] at he; subst he; replace hB := btr hB hb; replace ht := ht.below hb; clear hb)
      | (go_at_call 13; (with_reducible refine (HF _).out.mono ?_); rintro e w' ⟨he, hb⟩; rw [HE.out] at he; subst he; replace hB := btr hB hb; replace ht := ht.below hb; clear hb)
      | (go_at_call 14; (with_reducible refine (HX _).out.mono ?_); rintro e w' ⟨rfl, hb⟩; replace hB := btr hB hb; replace ht := ht.below hb; clear hb)
      | (go_at_call 10; (with_reducible refine (alive_any _ ht).mono ?_); rintro e w' ⟨rfl, hb⟩; replace hB := btr hB hb; replace ht := ht.below hb; clear hb))
  go_ret
  exact ⟨rfl, hB⟩

end Go.Proofs.YtnmejabmnapmpaaDoor
