/- The sets within a set, rising as numbers: how the next one comes of one, and how many there are. Plain facts on numbers; no statement about the program. -/
import Derived.Test.YtkfaccbabagooaaDoorMath
namespace Go.Proofs.YtkfaccbabagooaaDoor

theorem and_bits (a b i j : Nat) (hi : i < 2) (hj : j < 2) : (2 * a + i) &&& (2 * b + j) = 2 * (a &&& b) + (if i = 1 ∧ j = 1 then 1 else 0) := by
  have h1 : ((2 * a + i) &&& (2 * b + j)) / 2 = a &&& b := by
    rw [Nat.and_div_two]
    congr 1 <;> omega
  have h2 : ((2 * a + i) &&& (2 * b + j)) % 2 = if i = 1 ∧ j = 1 then 1 else 0 := by
    have h := @Nat.and_mod_two_pow (2 * a + i) (2 * b + j) 1
    rw [Nat.pow_one] at h
    rw [h]
    have e1 : (2 * a + i) % 2 = i := by omega
    have e2 : (2 * b + j) % 2 = j := by omega
    rw [e1, e2]
    rcases (show i = 0 ∨ i = 1 by omega) with rfl | rfl <;> rcases (show j = 0 ∨ j = 1 by omega) with rfl | rfl <;> rfl
  omega

/-- How many bits of s are set. -/
def cnt : Nat → Nat → Nat
  | 0, _ => 0
  | w + 1, s => s % 2 + cnt w (s / 2)
/-- The place of p among the sets within s. -/
def rk : Nat → Nat → Nat → Nat
  | 0, _, _ => 0
  | w + 1, s, p => if s % 2 = 1 then 2 * rk w (s / 2) (p / 2) + p % 2 else rk w (s / 2) (p / 2)
/-- p is within s. -/
def within : Nat → Nat → Nat → Prop
  | 0, s, p => s = 0 ∧ p = 0
  | w + 1, s, p => p % 2 ≤ s % 2 ∧ within w (s / 2) (p / 2)

theorem within_le : ∀ w s p, within w s p → p ≤ s ∧ s < 2 ^ w
  | 0, s, p, h => by unfold within at h; omega
  | w + 1, s, p, h => by
    unfold within at h
    have := within_le w _ _ h.2
    rw [Nat.pow_succ]; omega
theorem within_zero : ∀ w s, s < 2 ^ w → within w s 0
  | 0, s, h => by unfold within; omega
  | w + 1, s, h => by
    unfold within
    rw [Nat.pow_succ] at h
    exact ⟨by omega, by simpa using within_zero w (s / 2) (by omega)⟩
theorem rk_zero : ∀ w s, rk w s 0 = 0
  | 0, s => rfl
  | w + 1, s => by unfold rk; split <;> simp [rk_zero w (s / 2)]
theorem rk_top : ∀ w s p, within w s p → rk w s p + 1 ≤ 2 ^ cnt w s ∧ (rk w s p + 1 = 2 ^ cnt w s ↔ p = s)
  | 0, s, p, h => by unfold within at h; unfold rk cnt; simp [h.1, h.2]
  | w + 1, s, p, h => by
    unfold within at h
    obtain ⟨h1, h2⟩ := rk_top w _ _ h.2
    unfold rk cnt
    by_cases hs : s % 2 = 1
    · rw [if_pos hs, hs, Nat.pow_add]
      constructor
      · omega
      · constructor
        · intro he
          have h3 : rk w (s / 2) (p / 2) + 1 = 2 ^ cnt w (s / 2) := by omega
          have := h2.1 h3
          omega
        · rintro rfl
          have := h2.2 rfl
          omega
    · rw [if_neg hs, show s % 2 = 0 by omega, Nat.zero_add]
      refine ⟨h1, ?_⟩
      rw [h2]
      omega
/-- What the filled word gives back. -/
theorem and_fill : ∀ w s p, within w s p → (p + (2 ^ w - 1 - s)) &&& s = p
  | 0, s, p, h => by unfold within at h; simp [h.1, h.2]
  | w + 1, s, p, h => by
    unfold within at h
    have hi := and_fill w _ _ h.2
    have hl := within_le w _ _ h.2
    have e1 : p + (2 ^ (w + 1) - 1 - s) = 2 * (p / 2 + (2 ^ w - 1 - s / 2)) + (p % 2 + (1 - s % 2)) := by rw [Nat.pow_succ]; omega
    have e2 : s = 2 * (s / 2) + s % 2 := by omega
    rw [e1]
    conv => lhs; rw [e2]
    have e3 : (2 * (s / 2) + s % 2) / 2 = s / 2 := by omega
    have e4 : (2 * (s / 2) + s % 2) % 2 = s % 2 := by omega
    rw [e3, e4, and_bits _ _ _ _ (by omega) (by omega), hi]
    split <;> omega
/-- The next one. -/
def nx (w s p : Nat) : Nat := (p + 2 ^ w - s) &&& s
theorem nx_step : ∀ w s p, within w s p → p ≠ s → within w s (nx w s p) ∧ p < nx w s p ∧ rk w s (nx w s p) = rk w s p + 1
  | 0, s, p, h, hne => by unfold within at h; omega
  | w + 1, s, p, h, hne => by
    have hle := within_le (w + 1) s p h
    unfold within at h
    have hl := within_le w _ _ h.2
    have hf := and_fill w _ _ h.2
    have e2 : s = 2 * (s / 2) + s % 2 := by omega
    by_cases hc : s % 2 = 1 ∧ p % 2 = 0
    · have e1 : p + 2 ^ (w + 1) - s = 2 * (p / 2 + (2 ^ w - 1 - s / 2)) + 1 := by rw [Nat.pow_succ]; omega
      have hn : nx (w + 1) s p = 2 * (p / 2) + 1 := by
        unfold nx
        rw [e1]
        conv => lhs; rw [e2]
        have e3 : (2 * (s / 2) + s % 2) / 2 = s / 2 := by omega
        rw [e3, and_bits _ _ _ _ (by omega) (by omega), hf, if_pos ⟨rfl, hc.1⟩]
      rw [hn]
      have e5 : (2 * (p / 2) + 1) / 2 = p / 2 := by omega
      have e6 : (2 * (p / 2) + 1) % 2 = 1 := by omega
      refine ⟨?_, by omega, ?_⟩
      · unfold within; rw [e5, e6]; exact ⟨by omega, h.2⟩
      · unfold rk; rw [e5, e6, if_pos hc.1, if_pos hc.1]; omega
    · have hpe : p % 2 = s % 2 := by omega
      have hne' : p / 2 ≠ s / 2 := by omega
      obtain ⟨i1, i2, i3⟩ := nx_step w _ _ h.2 hne'
      have e1 : p + 2 ^ (w + 1) - s = 2 * (p / 2 + 2 ^ w - s / 2) + 0 := by rw [Nat.pow_succ]; omega
      have hn : nx (w + 1) s p = 2 * nx w (s / 2) (p / 2) := by
        unfold nx
        rw [e1]
        conv => lhs; rw [e2]
        have e3 : (2 * (s / 2) + s % 2) / 2 = s / 2 := by omega
        rw [e3, and_bits _ _ _ _ (by omega) (by omega), if_neg (by omega)]
        omega
      rw [hn]
      have e5 : (2 * nx w (s / 2) (p / 2)) / 2 = nx w (s / 2) (p / 2) := by omega
      have e6 : (2 * nx w (s / 2) (p / 2)) % 2 = 0 := by omega
      refine ⟨?_, by omega, ?_⟩
      · unfold within; rw [e5, e6]; exact ⟨by omega, i1⟩
      · unfold rk; rw [e5, e6]
        by_cases hs : s % 2 = 1
        · rw [if_pos hs, if_pos hs, i3]; omega
        · rw [if_neg hs, if_neg hs, i3]

/-- On words. -/
theorem within_of_and : ∀ w s p, s < 2 ^ w → p &&& s = p → within w s p
  | 0, s, p, h, ha => by unfold within; have : s = 0 := by omega
                         subst this; simp at ha; omega
  | w + 1, s, p, h, ha => by
    rw [Nat.pow_succ] at h
    have e1 : p = 2 * (p / 2) + p % 2 := by omega
    have e2 : s = 2 * (s / 2) + s % 2 := by omega
    have h2 := and_bits (p / 2) (s / 2) (p % 2) (s % 2) (by omega) (by omega)
    rw [← e1, ← e2, ha] at h2
    unfold within
    refine ⟨?_, within_of_and w _ _ (by omega) ?_⟩
    · split at h2 <;> omega
    · split at h2 <;> omega
theorem and_of_within (w s p : Nat) (h : within w s p) : p &&& s = p := by
  have hf := and_fill w s p h
  have : p &&& s = ((p + (2 ^ w - 1 - s)) &&& s) &&& s := by rw [hf]
  rw [this, Nat.and_assoc, Nat.and_self, hf]

def prt (x : BitVec 32) : Nat → BitVec 32
  | 0 => 0#32
  | j + 1 => ((prt x j ||| ~~~x) + 1#32) &&& x
theorem next_nat (x p : BitVec 32) (h : p.toNat &&& x.toNat = p.toNat) (hne : p ≠ x) : (((p ||| ~~~x) + 1#32) &&& x).toNat = nx 32 x.toNat p.toNat := by
  have hw := within_of_and 32 _ _ x.isLt h
  have hle := within_le 32 _ _ hw
  have h0 : p &&& ~~~x = 0#32 := by
    have hp : p &&& x = p := BitVec.eq_of_toNat_eq (by rw [BitVec.toNat_and]; exact h)
    apply BitVec.eq_of_getLsbD_eq; intro i hi
    have := congrArg (·.getLsbD i) hp
    simp only [BitVec.getLsbD_and] at this
    rw [BitVec.getLsbD_and, BitVec.getLsbD_not]
    cases hx : x.getLsbD i
    · rw [hx] at this; simp at this; simp [this]
    · simp
  have hne' : p.toNat ≠ x.toNat := fun e => hne (BitVec.eq_of_toNat_eq e)
  rw [← BitVec.add_eq_or_of_and_eq_zero _ _ h0]
  unfold nx
  rw [BitVec.toNat_and, BitVec.toNat_add, BitVec.toNat_add, BitVec.toNat_not]
  congr 1
  have := x.isLt
  simp
  omega
theorem prt_all (x : BitVec 32) : ∀ j, j < 2 ^ cnt 32 x.toNat → within 32 x.toNat (prt x j).toNat ∧ rk 32 x.toNat (prt x j).toNat = j
  | 0, _ => ⟨within_zero 32 _ x.isLt, rk_zero 32 _⟩
  | j + 1, hj => by
    obtain ⟨h1, h2⟩ := prt_all x j (by omega)
    have ht := (rk_top 32 _ _ h1).2
    have hne : prt x j ≠ x := fun e => by
      rw [e] at ht h2
      have := ht.2 rfl
      omega
    have hne' : (prt x j).toNat ≠ x.toNat := fun e => hne (BitVec.eq_of_toNat_eq e)
    have hs := nx_step 32 _ _ h1 hne'
    have hn := next_nat x (prt x j) (and_of_within 32 _ _ h1) hne
    unfold prt
    rw [hn]
    exact ⟨hs.1, by rw [hs.2.2, h2]⟩
theorem prt_last (x : BitVec 32) (j : Nat) (hj : j < 2 ^ cnt 32 x.toNat) : (prt x j = x) ↔ j + 1 = 2 ^ cnt 32 x.toNat := by
  obtain ⟨h1, h2⟩ := prt_all x j hj
  have ht := (rk_top 32 _ _ h1).2
  rw [h2] at ht
  rw [ht]
  exact ⟨fun e => by rw [e], fun e => BitVec.eq_of_toNat_eq e⟩
theorem prt_rise (x : BitVec 32) (j : Nat) (hj : j + 1 < 2 ^ cnt 32 x.toNat) : (prt x j).toNat < (prt x (j + 1)).toNat := by
  obtain ⟨h1, h2⟩ := prt_all x j (by omega)
  have hne : prt x j ≠ x := fun e => by
    have := (prt_last x j (by omega)).1 e
    omega
  have hne' : (prt x j).toNat ≠ x.toNat := fun e => hne (BitVec.eq_of_toNat_eq e)
  have hn := next_nat x (prt x j) (and_of_within 32 _ _ h1) hne
  show _ < (((prt x j ||| ~~~x) + 1#32) &&& x).toNat
  rw [hn]
  exact (nx_step 32 _ _ h1 hne').2.1
theorem prt_in (x : BitVec 32) (j : Nat) : prt x j &&& ~~~x = 0#32 := by
  apply BitVec.eq_of_getLsbD_eq; intro i hi
  cases j with
  | zero => simp [prt]
  | succ j =>
    unfold prt
    rw [BitVec.getLsbD_and, BitVec.getLsbD_and, BitVec.getLsbD_not]
    cases x.getLsbD i <;> simp

theorem cnt_lst : ∀ w s, cnt w s = ((List.range w).filter s.testBit).length
  | 0, s => rfl
  | w + 1, s => by
    unfold cnt
    rw [List.range_succ_eq_map, List.filter_cons, List.filter_map, cnt_lst w (s / 2)]
    have e : (s.testBit ∘ Nat.succ) = (s / 2).testBit := by
      funext i; show s.testBit (i + 1) = _; rw [Nat.testBit_succ]
    rw [e]
    cases h : s.testBit 0
    · have : s % 2 = 0 := by rw [Nat.testBit_zero] at h; simpa using h
      simp [this]
    · have : s % 2 = 1 := by rw [Nat.testBit_zero] at h; simpa using h
      simp [this]; omega
theorem cnt_len (x : BitVec 32) : cnt 32 x.toNat = (lst x 32).length := cnt_lst 32 x.toNat

/-- What is left without the least one. -/
theorem lst_rest (y : BitVec 32) (h : Nat) (t : List Nat) (e : lst y 32 = h :: t) : lst (y &&& ~~~onl (h : Int)) 32 = t := by
  have hnd : (lst y 32).Nodup := by
    unfold lst; exact List.Pairwise.filter _ List.nodup_range
  rw [e] at hnd
  have hn : h ∉ t := (List.nodup_cons.1 hnd).1
  have h1 : lst (y &&& ~~~onl (h : Int)) 32 = (lst y 32).filter (fun i => decide (i ≠ h)) := by
    unfold lst
    rw [List.filter_filter]
    apply List.filter_congr
    intro i hi
    have hi' : i < 32 := by simpa using hi
    rw [BitVec.getLsbD_and, BitVec.getLsbD_not, onl_bit _ i hi']
    by_cases e : i = h
    · subst e; simp
    · have : ¬ ((i : Int) = (h : Int)) := by omega
      simp [hi', e, this]
  rw [h1, e, List.filter_cons]
  simp
  intro a ha e
  exact hn (e ▸ ha)

end Go.Proofs.YtkfaccbabagooaaDoor
