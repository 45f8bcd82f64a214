/- Dropping what goes first, one by one: plain facts on the model of a queue. No statement about the program. -/
import Derived.Test.YtimaihdlaaonbaaDoorPlays
namespace Go.Proofs.YtimaihdlaaonbaaDoor
open Go.RowKit

/-- The order in which pairs go: by levels, then by numbers. -/
def before (x y : Nat × Nat) : Prop := x.2 < y.2 ∨ x.2 = y.2 ∧ x.1 < y.1
theorem lst_sorted (x : BitVec 32) (n : Nat) : (lst x n).Pairwise (· < ·) := by
  unfold lst; exact List.Pairwise.filter _ List.pairwise_lt_range
theorem allP_sorted (q : Nat → Nat) (k : Nat) : (allP q k).Pairwise before := by
  induction k with
  | zero => exact .nil
  | succ k ih =>
    unfold allP
    rw [List.pairwise_append]
    refine ⟨ih, ?_, ?_⟩
    · rw [List.pairwise_map]
      exact (lst_sorted _ _).imp fun h => .inr ⟨rfl, h⟩
    · rintro ⟨a, la⟩ ha ⟨b, lb⟩ hb
      rw [mem_allP] at ha
      rw [List.mem_map] at hb
      obtain ⟨_, _, he⟩ := hb
      injection he with e1 e2
      left
      show la < lb
      omega
theorem lst_drop (q : Nat → Nat) (n k : Nat) : lst (lv (upd q n 0) k) 32 = (lst (lv q k) 32).filter (fun i => decide (i ≠ n)) := by
  unfold lst
  rw [List.filter_filter]
  apply List.filter_congr
  intro i hi
  have hi' : i < 32 := by simpa using hi
  rw [lv_bit _ k i hi', lv_bit _ k i hi', Bool.eq_iff_iff]
  unfold upd
  by_cases e : i = n
  · subst e; simp
  · simp [e]
theorem allP_drop (q : Nat → Nat) (n k : Nat) : allP (upd q n 0) k = (allP q k).filter (fun x => decide (x.1 ≠ n)) := by
  induction k with
  | zero => rfl
  | succ k ih =>
    unfold allP
    rw [ih, lst_drop, List.filter_append, List.filter_map]
    rfl
theorem allP_tail {q : Nat → Nat} {x : Nat × Nat} {r : List (Nat × Nat)} (h : allP q 32 = x :: r) : inQ q (x.1 : Int) = true ∧ allP (dropQ q (x.1 : Int)) 32 = r := by
  have hm : x ∈ allP q 32 := by rw [h]; exact List.mem_cons_self
  obtain ⟨n, l⟩ := x
  rw [mem_allP] at hm
  have hi : inQ q (n : Int) = true := by
    unfold inQ
    rw [decide_eq_true_iff]
    refine ⟨by omega, by omega, ?_⟩
    rw [Int.toNat_natCast]; omega
  refine ⟨hi, ?_⟩
  show allP (dropQ q (n : Int)) 32 = r
  unfold dropQ
  rw [hi, if_pos rfl, Int.toNat_natCast, allP_drop, h, List.filter_cons, if_neg (by simp), List.filter_eq_self]
  rintro ⟨m, l'⟩ hr
  have hs := allP_sorted q 32
  rw [h, List.pairwise_cons] at hs
  have hb := hs.1 _ hr
  have hm2 : (m, l') ∈ allP q 32 := by rw [h]; exact List.mem_cons_of_mem _ hr
  rw [mem_allP] at hm2
  rw [decide_eq_true_iff]
  rintro e
  have e' : m = n := e
  subst e'
  unfold before at hb
  dsimp only at hb
  omega
/-- The queue when the first j pairs of L have been dropped. -/
def dq (q : Nat → Nat) (L : List (Nat × Nat)) : Nat → (Nat → Nat)
  | 0 => q
  | j + 1 => dropQ (dq q L j) (aN L j)
theorem dq_le {q : Nat → Nat} (L : List (Nat × Nat)) (hb : ∀ i, q i ≤ 32) : ∀ j i, dq q L j i ≤ 32
  | 0, i => hb i
  | j + 1, i => dropQ_le (dq_le L hb j) i
theorem dq_all {q : Nat → Nat} {L : List (Nat × Nat)} (hL : allP q 32 = L) (j : Nat) (hj : j ≤ L.length) : allP (dq q L j) 32 = L.drop j := by
  induction j with
  | zero => rw [List.drop_zero]; exact hL
  | succ j ih =>
    have hj' : j < L.length := by omega
    have h := ih (by omega)
    rw [List.drop_eq_getElem_cons hj'] at h
    have e : aN L j = (L[j]).1 := by unfold aN; simp [hj']
    show allP (dropQ (dq q L j) (aN L j)) 32 = _
    rw [e]; exact (allP_tail h).2
theorem dq_spec {q : Nat → Nat} {L : List (Nat × Nat)} (hL : allP q 32 = L) (j : Nat) (hj : j < L.length) : headP (dq q L j) = aN L j ∧ decide (0 < (allP (dq q L j) 32).length) = true ∧ inQ (dq q L j) (aN L j) = true := by
  have h := dq_all hL j (by omega)
  rw [List.drop_eq_getElem_cons hj] at h
  have e : aN L j = (L[j]).1 := by unfold aN; simp [hj]
  refine ⟨?_, ?_, ?_⟩
  · unfold headP; rw [h, e]; rfl
  · rw [h]; simp; omega
  · rw [e]; exact (allP_tail h).1
theorem dq_end {q : Nat → Nat} {L : List (Nat × Nat)} (hL : allP q 32 = L) (hb : ∀ i, q i ≤ 32) : headP (dq q L L.length) = 0 ∧ decide (0 < (allP (dq q L L.length) 32).length) = false ∧ accU (dq q L L.length) 32 = 0#32 := by
  have h := dq_all hL L.length (Nat.le_refl _)
  rw [List.drop_length] at h
  refine ⟨?_, ?_, ?_⟩
  · unfold headP; rw [h]; rfl
  · rw [h]; rfl
  · rw [← ofR_nums _ (dq_le L hb L.length)]
    unfold numsP
    rw [h]
    apply BitVec.eq_of_getLsbD_eq; intro i hi
    rw [ofR_bit _ i hi]; simp
theorem next_at {q : Nat → Nat} {L : List (Nat × Nat)} (hL : allP q 32 = L) (j : Nat) (hj : j + 1 < L.length) : aL L j < aL L (j + 1) ∨ aL L j = aL L (j + 1) ∧ aN L j < aN L (j + 1) := by
  have hs := allP_sorted q 32
  rw [hL, List.pairwise_iff_getElem] at hs
  have := hs j (j + 1) (by omega) hj (by omega)
  have e0 : L.getD j (0, 0) = L[j]'(by omega) := by simp [List.getD_eq_getElem?_getD, show j < L.length by omega]
  have e1 : L.getD (j + 1) (0, 0) = L[j + 1] := by simp [List.getD_eq_getElem?_getD, hj]
  unfold aL aN
  rw [e0, e1]
  exact this
end Go.Proofs.YtimaihdlaaonbaaDoor
