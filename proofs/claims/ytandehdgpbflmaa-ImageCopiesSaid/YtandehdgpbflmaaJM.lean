/- ref10's edge asks what image's edgeMayBe asks, where the modes have few queues: plain facts, no statement about the program's functions. -/
import Derived.Test.YtandehdgpbflmaaJL
namespace Go.Proofs.Ytandehdgpbflmaa
open Go.RowKit

theorem inB_true {n a b : Int} : inB n a b = true ↔ a ≤ n ∧ n ≤ b := by simp [inB]
theorem all_congr {n : Nat} {p q : Nat → Bool} (h : ∀ k, k < n → p k = q k) : (List.range n).all p = (List.range n).all q := by
  induction n with
  | zero => rfl
  | succ n ih => rw [List.range_succ, List.all_append, List.all_append, ih fun k hk => h k (by omega)]; simp [h n (by omega)]
theorem taken_has (l : List Int) (n : Int) (h0 : n ≠ 0) (h1 : 0 ≤ n) (h2 : n < 32) : ∀ k, hasB (takenB l k) n = !((List.range k).all fun j => !decide (l.getD j 0 = n)) := by
  intro k
  obtain ⟨m, rfl⟩ := Int.eq_ofNat_of_zero_le h1
  have hm : m < 32 := by omega
  rw [hasB_nat _ _ hm]
  induction k with
  | zero => simp [takenB]
  | succ k ih =>
    rw [List.range_succ, List.all_append, List.all_cons, List.all_nil, Bool.and_true]
    unfold takenB
    by_cases hz : l.getD k 0 = 0
    · rw [if_pos hz, ih]
      have : ¬ l.getD k 0 = (m : Int) := by omega
      rw [decide_eq_false this, Bool.not_false, Bool.and_true]
    · rw [if_neg hz, BitVec.getLsbD_or, ih, onl_bit _ _ hm]
      by_cases he : l.getD k 0 = (m : Int)
      · rw [decide_eq_true he, decide_eq_true he.symm, Bool.or_true, Bool.not_true, Bool.and_false, Bool.not_false]
      · have : ¬ (m : Int) = l.getD k 0 := fun e => he e.symm
        rw [decide_eq_false he, decide_eq_false this, Bool.or_false, Bool.not_false, Bool.and_true]
theorem rM_eq (l : List Int) (la lb k : Nat) (hb : lb < 32) : rM l (la : Int) (lb : Int) k = mapK l (la : Int) (lb : Int) k := by
  unfold rM mapK
  cases hi : inB (l.getD k 0) 0 (lb : Int)
  · rfl
  · obtain ⟨h1, h2⟩ := inB_true.1 hi
    by_cases h0 : l.getD k 0 = 0
    · have : (List.range k).all (fun j => decide (l.getD k 0 = 0) || !decide (l.getD j 0 = l.getD k 0)) = true := by
        rw [List.all_eq_true]; intro j _; rw [decide_eq_true h0]; rfl
      rw [this, decide_eq_true h0]; rfl
    · rw [taken_has l _ h0 h1 (by omega) k, decide_eq_false h0]
      simp
theorem rO_eq (l : List Int) (prot : Int) (a b : BitVec 32) (k : Nat) (hk : k < 16) : rO l prot a b k = offK l prot (b &&& ~~~a) k := by
  unfold rO offK mostO
  have hh : hasB (b &&& ~~~a) (k : Int) = (hasB b (k : Int) && !hasB a (k : Int)) := by
    rw [hasB_nat _ _ (by omega), hasB_nat _ _ (by omega), hasB_nat _ _ (by omega)]
    simp [show k < 32 by omega]
  rw [hh]
  obtain ⟨q, hq⟩ : ∃ q, (prot == 3 && (hasB b (k : Int) && !hasB a (k : Int))) = q := ⟨_, rfl⟩
  rw [hq]
  cases q
  · rw [if_neg (by simp)]
    simp only [Bool.or_false]
    unfold inB
    rw [← Bool.decide_and]
    congr 1
    apply propext
    constructor <;> intro h <;> omega
  · rw [if_pos rfl]; simp
theorem ix_first {x : Img} {k : Nat} (hk : k < x.edges.length) : (List.range k).all (fun j => !isE x (x.e k).frm (x.e k).dst j) = decide ((ixE x (x.e k).frm (x.e k).dst).getD 0 = k) := by
  have hs : isE x (x.e k).frm (x.e k).dst k = true := by simp [isE]
  generalize (x.e k).frm = f at hs ⊢
  generalize (x.e k).dst = t at hs ⊢
  cases ho : ixE x f t with
  | none =>
    unfold ixE at ho
    rw [List.find?_eq_none] at ho
    exact absurd hs (ho k (List.mem_range.2 hk))
  | some i =>
    have ho2 := ho
    unfold ixE at ho2
    rw [List.find?_range_eq_some] at ho2
    obtain ⟨h1, -, h2⟩ := ho2
    have hik : i ≤ k := by
      rcases Nat.lt_or_ge k i with h3 | h3
      · have := h2 k h3
        rw [hs] at this; simp at this
      · exact h3
    show _ = decide (i = k)
    by_cases he : i = k
    · subst he
      rw [decide_eq_true rfl]
      exact rangeAll_yes fun j hj => h2 j hj
    · rw [decide_eq_false he]
      exact rangeAll_no (k := i) (by omega) (by rw [h1]; rfl)
/-- The reference asks the same. -/
theorem redge_eq {x : Img} (k : Nat) (hk : k < x.edges.length) (hq : ∀ m, m < x.modes.length → (x.m m).qs.length ≤ 4) : redgeOK x k = edgeOK x k := by
  unfold redgeOK redgeB edgeOK
  have hm : ∀ m, inB m 0 ((x.modes.length : Int) - 1) = isMode x m := fun m => by
    unfold inB isMode
    congr 1
    apply propext
    constructor <;> intro h <;> omega
  rw [hm, hm, ix_first hk]
  cases h1 : isMode x (x.e k).frm
  · simp
  cases h2 : isMode x (x.e k).dst
  · simp
  have g1 : 0 ≤ (x.e k).frm ∧ (x.e k).frm < (x.modes.length : Int) := by simpa [isMode] using h1
  have g2 : 0 ≤ (x.e k).dst ∧ (x.e k).dst < (x.modes.length : Int) := by simpa [isMode] using h2
  have hlb : qlen x (x.e k).dst < 32 := by
    have := hq (x.e k).dst.toNat (by omega)
    unfold qlen; omega
  have e1 : tasksM x (x.e k).frm = (x.m (x.e k).frm.toNat).tasks := if_pos g1
  have e2 : tasksM x (x.e k).dst = (x.m (x.e k).dst.toNat).tasks := if_pos g2
  rw [e1, e2]
  have e3 : (List.range 4).all (rM (x.e k).map (qlen x (x.e k).frm : Int) (qlen x (x.e k).dst : Int)) = mapOK (x.e k).map (qlen x (x.e k).frm : Int) (qlen x (x.e k).dst : Int) := all_congr fun j _ => rM_eq _ _ _ j hlb
  have e4 : (List.range 16).all (rO (x.e k).offs (x.e k).prot (x.m (x.e k).frm.toNat).tasks (x.m (x.e k).dst.toNat).tasks) = offOK (x.e k).offs (x.e k).prot ((x.m (x.e k).dst.toNat).tasks &&& ~~~(x.m (x.e k).frm.toNat).tasks) := all_congr fun j hj => rO_eq _ _ _ _ j hj
  rw [e3, e4]
  rfl
end Go.Proofs.Ytandehdgpbflmaa
