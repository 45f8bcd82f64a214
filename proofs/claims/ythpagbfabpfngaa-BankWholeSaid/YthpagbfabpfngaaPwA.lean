/- Plain facts: wholly, or not. What a call makes of the image that the device's words say, whatever the power does. No statement about the program. -/
import Derived.Test.YthpagbfabpfngaaPk31
namespace Go.Proofs.Ythpagbfabpfngaa

theorem program_same (d : Dev) (s k : Int) (x : BitVec 32) : ((d.program s k x).1.ns = d.ns ∧ (d.program s k x).1.nw = d.nw) ∧ ∀ a b, (a = s.toNat → b = k.toNat → False) → (d.program s k x).1.word a b = d.word a b := by
  unfold Dev.program
  obtain ⟨e1, e2, e3, -, -⟩ := goes_same d
  split
  · split
    · split
      · refine ⟨⟨e1, e2⟩, fun a b h => ?_⟩
        show upd d.goes.1.word s.toNat k.toNat _ a b = _
        unfold upd
        rw [if_neg (fun hab => h hab.1 hab.2), e3]
      · refine ⟨⟨e1, e2⟩, fun a b h => ?_⟩
        show upd d.goes.1.word s.toNat k.toNat _ a b = _
        unfold upd
        rw [if_neg (fun hab => h hab.1 hab.2), e3]
    · exact ⟨⟨rfl, rfl⟩, fun _ _ _ => rfl⟩
  · exact ⟨⟨rfl, rfl⟩, fun _ _ _ => rfl⟩
theorem program_ok {d : Dev} {s k : Int} {x : BitVec 32} (h : (d.program s k x).2 = 0) : (d.program s k x).1.word s.toNat k.toNat = x := by
  unfold Dev.program at h ⊢
  split
  · rename_i he
    rw [if_pos he] at h
    split
    · rename_i hw
      rw [if_pos hw] at h
      split
      · rename_i hg
        rw [if_pos hg] at h
        cases h
      · show upd d.goes.1.word s.toNat k.toNat x s.toNat k.toNat = x
        unfold upd
        rw [if_pos ⟨rfl, rfl⟩]
    · rename_i hw
      rw [if_neg hw] at h
      cases h
  · rename_i he
    rw [if_neg he] at h
    exact absurd h he
theorem and_ones {x y : BitVec 32} (h : x &&& y = BitVec.allOnes 32) : x = BitVec.allOnes 32 := by
  apply BitVec.eq_of_getLsbD_eq
  intro i hi
  have := congrArg (fun z => z.getLsbD i) h
  simp only [BitVec.getLsbD_and, BitVec.getLsbD_allOnes, hi, decide_true] at this ⊢
  rw [Bool.and_eq_true] at this
  exact this.1
/-- Programming none of its own leaves a word blank that was. -/
theorem program_void {d : Dev} (h : (d.program 0 0 0#32).2 ≠ 0) (h1 : (d.program 0 0 0#32).1.word 0 0 = BitVec.allOnes 32) : d.word 0 0 = BitVec.allOnes 32 := by
  unfold Dev.program at h h1
  obtain ⟨-, -, e3, -, -⟩ := goes_same d
  split at h1
  · rename_i he
    rw [if_pos he] at h
    obtain ⟨-, -, -, -, hw⟩ := readE_ok he
    split at h1
    · rename_i hwi
      rw [if_pos hwi] at h
      split at h1
      · have h2 : upd d.goes.1.word (0 : Int).toNat (0 : Int).toNat (d.readW 0 0 &&& (0#32 ||| d.mask)) 0 0 = BitVec.allOnes 32 := h1
        unfold upd at h2
        rw [if_pos ⟨rfl, rfl⟩, hw] at h2
        exact and_ones h2
      · rename_i hg
        rw [if_neg hg] at h
        exact absurd rfl h
    · exact h1
  · exact h1
theorem erase_same (d : Dev) (s : Int) : ((d.erase s).1.ns = d.ns ∧ (d.erase s).1.nw = d.nw) ∧ ∀ a b, a ≠ s.toNat → (d.erase s).1.word a b = d.word a b := by
  unfold Dev.erase
  obtain ⟨e1, e2, e3, -, -⟩ := goes_same (d.wear s.toNat)
  have hw : (d.wear s.toNat).word = d.word := rfl
  split
  · split
    · exact ⟨⟨rfl, rfl⟩, fun _ _ _ => rfl⟩
    · split
      · refine ⟨⟨e1, e2⟩, fun a b h => ?_⟩
        show (if a = s.toNat ∧ b < d.nw then _ else (d.wear s.toNat).goes.1.word a b) = _
        rw [if_neg (fun hab => h hab.1), e3, hw]
      · refine ⟨⟨e1, e2⟩, fun a b h => ?_⟩
        show (if a = s.toNat ∧ b < d.nw then _ else (d.wear s.toNat).goes.1.word a b) = _
        rw [if_neg (fun hab => h hab.1), e3, hw]
  · exact ⟨⟨rfl, rfl⟩, fun _ _ _ => rfl⟩
theorem erase_ok {d : Dev} {s : Int} (h : (d.erase s).2 = 0) : ∀ b, b < d.nw → (d.erase s).1.word s.toNat b = 4294967295#32 := by
  intro b hb
  unfold Dev.erase at h ⊢
  split
  · rename_i he
    rw [if_pos he] at h
    split
    · rename_i hl
      rw [if_pos hl] at h
      cases h
    · rename_i hl
      rw [if_neg hl] at h
      split
      · rename_i hg
        rw [if_pos hg] at h
        cases h
      · show (if s.toNat = s.toNat ∧ b < d.nw then 4294967295#32 else _) = _
        rw [if_pos ⟨rfl, hb⟩]
  · rename_i he
    rw [if_neg he] at h
    exact absurd h he
/-- The image that the words say, were the power there. -/
def imgW (d : Dev) : Option (List (BitVec 32)) := if stOK d 0 4 then (if crcW (rowD d 0 (longN d 0)) = d.word 1 4 then some (rowD d 0 (longN d 0)) else none) else none
theorem imageR_W (d : Dev) : imageR d 0 4 = if d.on then imgW d else none := by
  unfold imageR imgW
  cases d.on <;> cases stOK d 0 4 <;> rfl
/-- The image hangs on few words. -/
theorem imgW_same {d d' : Dev} (hn : d'.nw = d.nw) (h0 : d'.word 0 0 = d.word 0 0) (h1 : ∀ j, j < 8 → d'.word 1 j = d.word 1 j) (h2 : ∀ s k, 2 ≤ s → d'.word s k = d.word s k) : imgW d' = imgW d := by
  have hst : stOK d' 0 4 = stOK d 0 4 := by
    unfold stOK voidB validH roomN
    rw [show (0 : Nat) + 1 = 1 from rfl, h0, hn, h1 0 (by omega), h1 1 (by omega), h1 2 (by omega), h1 3 (by omega), h1 4 (by omega), h1 5 (by omega), h1 6 (by omega), h1 7 (by omega)]
  have hl : longN d' 0 = longN d 0 := by unfold longN; rw [show (0 : Nat) + 1 = 1 from rfl, h1 2 (by omega)]
  have hr : rowD d' 0 (longN d' 0) = rowD d 0 (longN d 0) := by
    rw [hl]
    unfold rowD
    refine List.map_congr_left fun k _ => ?_
    unfold dataW
    rw [hn, h2 _ _ (Nat.le_add_right (0 + 2) _)]
  unfold imgW
  rw [hst, hr, h1 4 (by omega)]
theorem imgW_void {d : Dev} (h : d.word 0 0 ≠ BitVec.allOnes 32) : imgW d = none := by
  unfold imgW stOK voidB
  rw [show (d.word 0 0 == BitVec.allOnes 32) = false from beq_eq_false_iff_ne.2 h]
  simp
theorem imgW_blank {d : Dev} (h : d.word 1 6 = 4294967295#32) : imgW d = none := by
  unfold imgW stOK validH
  rw [show (0 : Nat) + 1 = 1 from rfl, h, show ((4294967295#32 : BitVec 32) == comW) = false by decide]
  simp
/-- While words may be put the header is blank, and the data are what was put. -/
structure Jt.whole (s : Jt) : Prop where
  bl : s.op = true → ∀ j, j < 8 → s.d.word 1 j = 4294967295#32
  da : s.op = true → ∀ k, k < s.X.length → dataW s.d 0 k = nthW s.X k
/-- Does a call commit? -/
def Jt.commits (s : Jt) (o : Op8) : Prop := o.kind % 8 = 3 ∧ s.op = true ∧ 0 < s.X.length
theorem eraseK_words {d : Dev} (hn : d.nw = 13) (h0 : d.word 0 0 = 0#32) : ∀ k, k ≤ 4 → ((eraseK d 0 4 k).1.nw = 13) ∧ ((eraseK d 0 4 k).1.word 0 0 = 0#32 ∨ (eraseK d 0 4 k).1.word 1 6 = 4294967295#32) ∧ (k ≤ 3 → (eraseK d 0 4 k).1.word 0 0 = 0#32) ∧ (1 ≤ k → (eraseK d 0 4 k).2 = 0 → ∀ j, j < 8 → (eraseK d 0 4 k).1.word 1 j = 4294967295#32) := by
  intro k
  induction k with
  | zero => intro _; exact ⟨hn, .inl h0, fun _ => h0, fun h => by omega⟩
  | succ k ih =>
    intro hk
    obtain ⟨i1, i2, i3, i4⟩ := ih (by omega)
    show ((if (eraseK d 0 4 k).2 = 0 then _ else eraseK d 0 4 k) : Dev × Int).1.nw = 13 ∧ _
    have e : eraseK d 0 4 (k + 1) = if (eraseK d 0 4 k).2 = 0 then (eraseK d 0 4 k).1.erase (secN 0 4 k : Nat) else eraseK d 0 4 k := rfl
    rw [e]
    by_cases h : (eraseK d 0 4 k).2 = 0
    · rw [if_pos h]
      obtain ⟨⟨_, s1⟩, s2⟩ := erase_same (eraseK d 0 4 k).1 (secN 0 4 k : Nat)
      rw [Int.toNat_natCast] at s2
      obtain rfl | rfl | rfl | rfl : k = 0 ∨ k = 1 ∨ k = 2 ∨ k = 3 := by omega
      · have h00 : ((eraseK d 0 4 0).1.erase (secN 0 4 0 : Nat)).1.word 0 0 = 0#32 := by rw [s2 0 0 (by decide)]; exact i3 (by omega)
        refine ⟨by rw [s1]; exact i1, .inl h00, fun _ => h00, fun _ he j hj => ?_⟩
        have := erase_ok he j (by rw [i1]; omega)
        rw [Int.toNat_natCast] at this
        exact this
      · have h00 : ((eraseK d 0 4 1).1.erase (secN 0 4 1 : Nat)).1.word 0 0 = 0#32 := by rw [s2 0 0 (by decide)]; exact i3 (by omega)
        exact ⟨by rw [s1]; exact i1, .inl h00, fun _ => h00, fun _ _ j hj => by rw [s2 1 j (by decide)]; exact i4 (by omega) h j hj⟩
      · have h00 : ((eraseK d 0 4 2).1.erase (secN 0 4 2 : Nat)).1.word 0 0 = 0#32 := by rw [s2 0 0 (by decide)]; exact i3 (by omega)
        exact ⟨by rw [s1]; exact i1, .inl h00, fun _ => h00, fun _ _ j hj => by rw [s2 1 j (by decide)]; exact i4 (by omega) h j hj⟩
      · have h16 : ∀ j, j < 8 → ((eraseK d 0 4 3).1.erase (secN 0 4 3 : Nat)).1.word 1 j = 4294967295#32 := fun j hj => by rw [s2 1 j (by decide)]; exact i4 (by omega) h j hj
        exact ⟨by rw [s1]; exact i1, .inr (h16 6 (by omega)), fun h => by omega, fun _ _ => h16⟩
    · rw [if_neg h]
      exact ⟨i1, i2, fun hk3 => i3 (by omega), fun _ he => absurd he h⟩
theorem Jt.begin_whole {s : Jt} (h : s.good) (_hw : s.whole) : s.begin.whole ∧ (imgW s.begin.d = imgW s.d ∨ imgW s.begin.d = none) := by
  have hp := program_same s.d 0 0 0#32
  have hX : s.begin.X = (lbegR s.d.nn s.X).2.2.2 := rfl
  rw [lbegR_nn h.h4.1] at hX
  have hd : s.begin.d = (beginR s.d 0 4 s.P).2.1 := rfl
  have ho : s.begin.op = (beginR s.d 0 4 s.P).2.2.1 := rfl
  unfold beginR at hd ho
  by_cases hon : s.d.on = true
  · rw [if_pos hon] at hd ho hX
    by_cases hwn : wornB s.d 0 4 = true
    · rw [if_pos hwn] at hd ho hX
      refine ⟨⟨fun e => ?_, fun e => ?_⟩, .inl (by rw [hd])⟩
      · rw [ho] at e; cases e
      · rw [ho] at e; cases e
    · rw [if_neg hwn] at hd ho hX
      have hb : blankD s.d 0 4 = if (s.d.program 0 0 0#32).2 = 0 then eraseK (s.d.program 0 0 0#32).1 0 4 4 else s.d.program 0 0 0#32 := rfl
      by_cases h0 : (s.d.program 0 0 0#32).2 = 0
      · rw [if_pos h0] at hb
        have hv : (s.d.program 0 0 0#32).1.word 0 0 = 0#32 := program_ok (s := 0) (k := 0) h0
        obtain ⟨k1, k2, -, k4⟩ := eraseK_words (by rw [hp.1.2]; exact h.h4.2) hv 4 (Nat.le_refl _)
        have himg : imgW (blankD s.d 0 4).1 = none := by
          rw [hb]
          rcases k2 with k2 | k2
          · exact imgW_void (by rw [k2]; decide)
          · exact imgW_blank k2
        by_cases he : (blankD s.d 0 4).2 = 0
        · rw [if_pos he] at hd ho
          refine ⟨⟨fun _ j hj => ?_, fun _ k hk => ?_⟩, .inr (by rw [hd]; exact himg)⟩
          · rw [hd, hb]
            rw [hb] at he
            exact k4 (by omega) he j hj
          · rw [hX] at hk; exact absurd hk (Nat.not_lt_zero k)
        · rw [if_neg he] at hd ho
          refine ⟨⟨fun e => ?_, fun e => ?_⟩, .inr (by rw [hd]; exact himg)⟩
          · rw [ho] at e; cases e
          · rw [ho] at e; cases e
      · rw [if_neg h0] at hb
        have he : ¬ (blankD s.d 0 4).2 = 0 := by rw [hb]; exact h0
        rw [if_neg he] at hd ho
        refine ⟨⟨fun e => ?_, fun e => ?_⟩, ?_⟩
        · rw [ho] at e; cases e
        · rw [ho] at e; cases e
        · rw [hd, hb]
          by_cases hv : (s.d.program 0 0 0#32).1.word 0 0 = BitVec.allOnes 32
          · left
            refine imgW_same hp.1.2 (by rw [hv, program_void h0 hv]) (fun j _ => hp.2 1 j (fun e _ => by cases e)) (fun a b ha => hp.2 a b (fun e _ => by have : a = 0 := e; omega))
          · exact .inr (imgW_void hv)
  · rw [if_neg hon] at hd ho hX
    refine ⟨⟨fun e => ?_, fun e => ?_⟩, .inl (by rw [hd])⟩
    · rw [ho] at e; cases e
    · rw [ho] at e; cases e
theorem progK_word (d : Dev) (f : Nat) (at_ : Nat → Nat) (ws : Nat → BitVec 32) : ∀ n, (progK d f at_ ws n).1.nw = d.nw ∧ (∀ a b, (∀ k, k < n → f + at_ k / d.nw = a → at_ k % d.nw = b → False) → (progK d f at_ ws n).1.word a b = d.word a b) ∧ ((progK d f at_ ws n).2 = 0 → ∀ k, k < n → (∀ j, k < j → j < n → f + at_ j / d.nw = f + at_ k / d.nw → at_ j % d.nw = at_ k % d.nw → False) → (progK d f at_ ws n).1.word (f + at_ k / d.nw) (at_ k % d.nw) = ws k) := by
  intro n
  induction n with
  | zero => exact ⟨rfl, fun _ _ _ => rfl, fun _ k hk => absurd hk (Nat.not_lt_zero k)⟩
  | succ n ih =>
    obtain ⟨i1, i2, i3⟩ := ih
    have e : progK d f at_ ws (n + 1) = if (progK d f at_ ws n).2 = 0 then (progK d f at_ ws n).1.program ((f + at_ n / d.nw : Nat) : Int) ((at_ n % d.nw : Nat) : Int) (ws n) else progK d f at_ ws n := rfl
    rw [e]
    by_cases h : (progK d f at_ ws n).2 = 0
    · rw [if_pos h]
      obtain ⟨⟨_, p1⟩, p2⟩ := program_same (progK d f at_ ws n).1 ((f + at_ n / d.nw : Nat) : Int) ((at_ n % d.nw : Nat) : Int) (ws n)
      rw [Int.toNat_natCast, Int.toNat_natCast] at p2
      refine ⟨p1.trans i1, fun a b hab => ?_, fun he k hk hkj => ?_⟩
      · rw [p2 a b (fun e1 e2 => hab n (by omega) e1.symm e2.symm)]
        exact i2 a b (fun k hk => hab k (by omega))
      · rcases Nat.lt_or_ge k n with hkn | hkn
        · rw [p2 _ _ (fun e1 e2 => hkj n hkn (by omega) e1.symm e2.symm)]
          exact i3 h k hkn (fun j h1 h2 => hkj j h1 (by omega))
        · obtain rfl : k = n := by omega
          have := program_ok he
          rw [Int.toNat_natCast, Int.toNat_natCast] at this
          exact this
    · rw [if_neg h]
      exact ⟨i1, fun a b hab => i2 a b (fun k hk => hab k (by omega)), fun he => absurd he h⟩
theorem Jt.put_whole {s : Jt} (h : s.good) (hw : s.whole) (M : List (BitVec 32)) : (s.put M).whole ∧ (imgW (s.put M).d = imgW s.d ∨ imgW (s.put M).d = none) := by
  unfold Jt.put
  cases hop : s.op with
  | false => exact ⟨hw, .inl rfl⟩
  | true =>
    have hp := h.px hop
    simp only [if_true]
    split
    · exact ⟨hw, .inl rfl⟩
    · have h13 := h.h4.2
      obtain ⟨i1, i2, i3⟩ := progK_word s.d (0 + 2) (fun k => s.P.length + k) (nthW M) M.length
      rw [h13] at i2 i3
      have hb : ∀ j, j < 8 → (putK s.d 0 s.P M).1.word 1 j = 4294967295#32 := fun j hj => (i2 1 j (fun k _ e => by omega)).trans (hw.bl hop j hj)
      refine ⟨⟨fun _ => hb, fun e k hk => ?_⟩, .inr (imgW_blank (hb 6 (by omega)))⟩
      have e : (putK s.d 0 s.P M).2 = 0 := of_decide_eq_true e
      show (putK s.d 0 s.P M).1.word (0 + 2 + k / (putK s.d 0 s.P M).1.nw) (k % (putK s.d 0 s.P M).1.nw) = nthW (s.X ++ M) k
      rw [show (putK s.d 0 s.P M).1.nw = 13 from i1.trans h13]
      rcases Nat.lt_or_ge k s.X.length with hk1 | hk1
      · have := hw.da hop k hk1
        unfold dataW at this
        rw [h13] at this
        have h2 := i2 (0 + 2 + k / 13) (k % 13) (fun j _ e1 e2 => by rw [hp] at e1 e2; omega)
        refine (h2.trans this).trans ?_
        unfold nthW
        rw [List.getD_eq_getElem?_getD, List.getD_eq_getElem?_getD, List.getElem?_append_left hk1]
      · have hk : k < (s.X ++ M).length := hk
        rw [List.length_append] at hk
        obtain ⟨j, rfl⟩ : ∃ j, k = s.X.length + j := ⟨k - s.X.length, by omega⟩
        have h3 := i3 e j (by omega) (fun i h1 h2 e1 e2 => by omega)
        simp only [hp] at h3
        refine (show _ = nthW M j from by rw [← hp] at h3 ⊢; exact h3).trans ?_
        unfold nthW
        rw [List.getD_eq_getElem?_getD, List.getD_eq_getElem?_getD, List.getElem?_append_right (by omega), Nat.add_sub_cancel_left]
theorem Jt.commit_whole {s : Jt} (h : s.good) (hw : s.whole) (q : BitVec 32) : (s.commit q).whole ∧ (¬ (s.op = true ∧ 0 < s.X.length) → imgW (s.commit q).d = imgW s.d) ∧ (s.op = true ∧ 0 < s.X.length → imgW (s.commit q).d = none ∨ imgW (s.commit q).d = some s.X) := by
  unfold Jt.commit
  split
  · rename_i hc
    have hp := h.px hc.1
    have h13 := h.h4.2
    refine ⟨⟨fun e => (by cases e), fun e => (by cases e)⟩, fun hn => absurd hc hn, fun _ => ?_⟩
    show imgW (commitD s.d 0 s.P q).1 = none ∨ imgW (commitD s.d 0 s.P q).1 = some s.X
    obtain ⟨a1, a2, a3⟩ := progK_word s.d (0 + 1) (fun k => 0 + k) (wrW (hdW q (BitVec.ofNat 32 s.P.length) (~~~(runW ones s.P)))) 6
    have a1 : (commitK s.d 0 s.P q).1.nw = 13 := a1.trans h13
    have a2 : ∀ a b, (∀ k, k < 6 → 0 + 1 + (0 + k) / s.d.nw = a → (0 + k) % s.d.nw = b → False) → (commitK s.d 0 s.P q).1.word a b = s.d.word a b := a2
    have a3 : (commitK s.d 0 s.P q).2 = 0 → ∀ k, k < 6 → (∀ j, k < j → j < 6 → 0 + 1 + (0 + j) / s.d.nw = 0 + 1 + (0 + k) / s.d.nw → (0 + j) % s.d.nw = (0 + k) % s.d.nw → False) → (commitK s.d 0 s.P q).1.word (0 + 1 + (0 + k) / s.d.nw) ((0 + k) % s.d.nw) = wrW (hdW q (BitVec.ofNat 32 s.P.length) (~~~(runW ones s.P))) k := a3
    rw [h13] at a2 a3
    unfold commitD
    split
    · rename_i he
      obtain ⟨b1, b2, -⟩ := progK_word (commitK s.d 0 s.P q).1 (0 + 1) (fun k => 6 + k) (wrW (fun _ => comW)) 2
      rw [a1] at b1 b2
      obtain ⟨d', hd'⟩ : ∃ d', (progK (commitK s.d 0 s.P q).1 (0 + 1) (fun k => 6 + k) (wrW (fun _ => comW)) 2).1 = d' := ⟨_, rfl⟩
      rw [hd'] at b1 b2 ⊢
      have hl : d'.word 1 2 = BitVec.ofNat 32 s.P.length := by
        rw [b2 1 2 (fun k hk e1 e2 => by omega)]
        exact a3 he 2 (by omega) (fun j h1 h2 _ e2 => by omega)
      have hln : longN d' 0 = s.X.length := by
        unfold longN
        rw [show (0 : Nat) + 1 = 1 from rfl, hl, BitVec.toNat_ofNat, hp]
        have := h.xl
        omega
      have hrow : rowD d' 0 (longN d' 0) = s.X := by
        rw [hln]
        refine nthW_ext (by rw [rowD_len]) (fun k hk => ?_)
        rw [rowD_len] at hk
        rw [rowD_nth _ _ _ _ hk]
        have := hw.da hc.1 k hk
        unfold dataW at this ⊢
        rw [b1]
        rw [h13] at this
        rw [b2 _ _ (fun j hj e1 e2 => by omega), a2 _ _ (fun j hj e1 e2 => by omega)]
        exact this
      unfold imgW
      rw [hrow]
      split
      · split
        · exact .inr rfl
        · exact .inl rfl
      · exact .inl rfl
    · left
      refine imgW_blank ?_
      rw [a2 1 6 (fun j hj e1 e2 => by omega)]
      exact hw.bl hc.1 6 (by omega)
  · rename_i hc
    exact ⟨hw, fun _ => rfl, fun h => absurd h hc⟩
theorem Jt.high {s s' : Jt} (hw : s.whole) (ho : s'.op = s.op) (hX : s'.X = s.X) (hn : s'.d.nw = s.d.nw) (hd : ∀ a b, (a = 1 → 8 ≤ b → False) → s'.d.word a b = s.d.word a b) : s'.whole ∧ imgW s'.d = imgW s.d := by
  refine ⟨⟨fun e j hj => ?_, fun e k hk => ?_⟩, imgW_same hn (hd 0 0 (fun e _ => by cases e)) (fun j hj => hd 1 j (fun _ e => by omega)) (fun a b ha => hd a b (fun e _ => by omega))⟩
  · rw [hd 1 j (fun _ e => by omega)]; exact hw.bl (ho ▸ e) j hj
  · rw [hX] at hk ⊢
    have := hw.da (ho ▸ e) k hk
    unfold dataW at this ⊢
    rw [hn, hd _ _ (fun e _ => by have := Nat.le_add_right (0 + 2) (k / s.d.nw); omega)]
    exact this
theorem Jt.confirm_whole {s : Jt} (h : s.good) (hw : s.whole) : s.confirm.whole ∧ imgW s.confirm.d = imgW s.d := by
  have hd : s.confirm.d = s.d ∨ s.confirm.d = (progK s.d (0 + 1) (fun k => 8 + k) (wrW (fun _ => conW)) 2).1 := by
    show (confirmR s.d 0 4).1 = s.d ∨ (confirmR s.d 0 4).1 = (progK s.d (0 + 1) (fun k => 8 + k) (wrW (fun _ => conW)) 2).1
    unfold confirmR
    split
    · split
      · split
        · exact .inl rfl
        · split
          · exact .inl rfl
          · exact .inr rfl
      · exact .inl rfl
    · exact .inl rfl
  obtain ⟨i1, i2, -⟩ := progK_word s.d (0 + 1) (fun k => 8 + k) (wrW (fun _ => conW)) 2
  rw [h.h4.2] at i2
  refine Jt.high hw rfl rfl ?_ ?_
  · rcases hd with hd | hd
    · rw [hd]
    · rw [hd, i1]
  · intro a b hab
    rcases hd with hd | hd
    · rw [hd]
    · rw [hd]
      exact i2 a b (fun k hk e1 e2 => hab (by omega) (by omega))
theorem Jt.try_whole {s : Jt} (_h : s.good) (hw : s.whole) : s.try_.whole ∧ imgW s.try_.d = imgW s.d := by
  have hd : s.try_.d = s.d ∨ (nxB (s.d.word (0 + 1)) = true ∧ s.try_.d = (s.d.program ((0 + 1 : Nat) : Int) (nxN (s.d.word (0 + 1)) : Nat) 0#32).1) := by
    show (tryR s.d 0 4).1 = s.d ∨ (nxB (s.d.word (0 + 1)) = true ∧ (tryR s.d 0 4).1 = (s.d.program ((0 + 1 : Nat) : Int) (nxN (s.d.word (0 + 1)) : Nat) 0#32).1)
    unfold tryR
    split
    · split
      · split
        · exact .inl rfl
        · split
          · rename_i hb; exact .inr ⟨hb, rfl⟩
          · exact .inl rfl
      · exact .inl rfl
    · exact .inl rfl
  obtain ⟨⟨-, p1⟩, p2⟩ := program_same s.d ((0 + 1 : Nat) : Int) (nxN (s.d.word (0 + 1)) : Nat) 0#32
  rw [Int.toNat_natCast, Int.toNat_natCast] at p2
  refine Jt.high hw rfl rfl ?_ ?_
  · rcases hd with hd | ⟨_, hd⟩
    · rw [hd]
    · rw [hd]; exact p1
  · intro a b hab
    rcases hd with hd | ⟨hb, hd⟩
    · rw [hd]
    · rw [hd]
      have := nx_ge hb
      exact p2 a b (fun e1 e2 => hab (by omega) (by omega))
theorem Jt.one_whole {s : Jt} (h : s.good) (hw : s.whole) (o : Op8) : (s.one o).whole ∧ (¬ s.commits o → imgW (s.one o).d = imgW s.d ∨ imgW (s.one o).d = none) ∧ (s.commits o → imgW (s.one o).d = none ∨ imgW (s.one o).d = some s.X) := by
  unfold Jt.one Jt.commits
  by_cases h0 : o.kind % 8 = 0
  · rw [if_pos h0]
    have := Jt.begin_whole h hw
    exact ⟨this.1, fun _ => this.2, fun hc => by omega⟩
  rw [if_neg h0]
  by_cases h3 : o.kind % 8 = 3
  · rw [if_pos h3]
    have := Jt.commit_whole h hw (BitVec.ofInt 32 o.n)
    exact ⟨this.1, fun hc => .inl (this.2.1 (fun hx => hc ⟨h3, hx⟩)), fun hc => this.2.2 hc.2⟩
  rw [if_neg h3]
  by_cases h4 : o.kind % 8 = 4
  · rw [if_pos h4]
    have := Jt.confirm_whole h hw
    exact ⟨this.1, fun _ => .inl this.2, fun hc => absurd hc.1 h3⟩
  rw [if_neg h4]
  by_cases h5 : o.kind % 8 = 5
  · rw [if_pos h5]
    have := Jt.try_whole h hw
    exact ⟨this.1, fun _ => .inl this.2, fun hc => absurd hc.1 h3⟩
  rw [if_neg h5]
  by_cases h6 : o.kind % 8 = 6
  · rw [if_pos h6]
    have := Jt.high (s' := s.armed o.n o.s) hw rfl rfl rfl (fun _ _ _ => rfl)
    exact ⟨this.1, fun _ => .inl this.2, fun hc => absurd hc.1 h3⟩
  rw [if_neg h6]
  by_cases h7 : o.kind % 8 = 7
  · rw [if_pos h7]
    have := Jt.high (s' := s.power) hw rfl rfl rfl (fun _ _ _ => rfl)
    exact ⟨this.1, fun _ => .inl this.2, fun hc => absurd hc.1 h3⟩
  rw [if_neg h7]
  have := Jt.put_whole h hw o.W
  exact ⟨this.1, fun _ => this.2, fun hc => absurd hc.1 h3⟩
end Go.Proofs.Ythpagbfabpfngaa
