/- What found offsets are, one task behind the other. -/
import Derived.Test.YtchmdnmifpjfkaaDoorPk21
namespace Go.Proofs.YtchmdnmifpjfkaaDoor
open Go.RowKit

theorem wdF_onl (l : Nat → Int) (v : Int) {i : Nat} (hi : i < 32) : wdF l (onl (i : Int)) v = updF l i v := by
  funext j
  unfold wdF updF
  by_cases hj : j < 32
  · rw [onl_bit _ _ hj]
    by_cases e : j = i
    · simp [e]
    · rw [if_neg (by simp; omega), if_neg e]
  · rw [show (onl (i : Int)).getLsbD j = false from BitVec.getLsbD_of_ge _ _ (by omega), if_neg (by simp), if_neg (by omega)]
/-- The offsets when those below i are found. -/
def gF (x : Img) (k : Int) (i : Nat) : Nat → Int := fdF x k (farE x k) (lst (frE x k) i)
def vF (x : Img) (k : Int) (i : Nat) : Nat := lsE x k (gF x k i) (onl (i : Int))
theorem gF_yes {x : Img} {k : Int} {i : Nat} (h : (frE x k).getLsbD i = true) : gF x k (i + 1) = updF (gF x k i) i (vF x k i : Nat) := by
  unfold vF gF
  rw [show lst (frE x k) (i + 1) = lst (frE x k) i ++ [i] by simp [lst, List.range_succ, List.filter_append, h], fdF_snoc]
theorem gF_no {x : Img} {k : Int} {i : Nat} (h : (frE x k).getLsbD i = false) : gF x k (i + 1) = gF x k i := by
  unfold gF
  rw [show lst (frE x k) (i + 1) = lst (frE x k) i by simp [lst, List.range_succ, List.filter_append, h]]
theorem gF_rng (x : Img) (k : Int) (i : Nat) : ∀ j, j < 16 → 0 ≤ gF x k i j ∧ gF x k i j ≤ 16384 := fdF_rng x k _ (farE_rng x k)
/-- One that is not yet looked at is as it was. -/
theorem gF_at (x : Img) (k : Int) : ∀ (i : Nat) {j : Nat}, i ≤ j → gF x k i j = farE x k j
  | 0, _, _ => rfl
  | i + 1, j, h => by
    have ih := gF_at x k i (j := j) (by omega)
    by_cases hb : (frE x k).getLsbD i = true
    · rw [gF_yes hb]; unfold updF; rw [if_neg (by omega)]; exact ih
    · rw [gF_no (by simpa using hb)]; exact ih
/-- One that was looked at stays. -/
theorem gF_keep (x : Img) (k : Int) (j : Nat) : ∀ (d : Nat), gF x k (j + 1 + d) j = gF x k (j + 1) j
  | 0 => rfl
  | d + 1 => by
    have ih := gF_keep x k j d
    rw [show j + 1 + (d + 1) = j + 1 + d + 1 by omega]
    by_cases hb : (frE x k).getLsbD (j + 1 + d) = true
    · rw [gF_yes hb]; unfold updF; rw [if_neg (by omega)]; exact ih
    · rw [gF_no (by simpa using hb)]; exact ih
theorem gF_last (x : Img) (k : Int) : fdF x k (farE x k) (lst (frE x k) 32) = gF x k 16 := by
  unfold gF
  rw [lst_cut (y := frE x k) (show 16 ≤ 32 by omega) (fun j h1 h2 => by
    by_cases hb : (frE x k).getLsbD j = true
    · have := frE_lt x k j h2 hb; omega
    · simpa using hb)]
theorem upd_upd (l : Nat → Int) (i : Nat) (a b : Int) : updF (updF l i a) i b = updF l i b := by
  funext j; unfold updF; split <;> rfl
theorem upd_same (l : Nat → Int) (i : Nat) (a : Int) (h : l i = a) : updF l i a = l := by
  funext j; unfold updF; split
  · subst_vars; rfl
  · rfl
/-- Found offsets fit, each one is the least. -/
theorem gF_step {x : Img} {k : Int} {i : Nat} (hi : i < 16) (hf : fitE x k (gF x k i) = true) (hb : (frE x k).getLsbD i = true) :
    vF x k i ≤ 16384 ∧ fitE x k (updF (gF x k i) i (vF x k i : Nat)) = true ∧ ∀ m : Nat, m + 1 = vF x k i → fitE x k (updF (gF x k i) i (m : Nat)) = false := by
  have hp : (fun n : Nat => fitE x k (wdF (gF x k i) (onl (i : Int)) (n : Int))) = fun n : Nat => fitE x k (updF (gF x k i) i (n : Int)) := by
    funext n; rw [wdF_onl _ _ (by omega)]
  obtain ⟨h1, h2, h3⟩ := bsN_ok (fun n : Nat => fitE x k (updF (gF x k i) i (n : Int))) 16384
  have e : vF x k i = bsN (fun n : Nat => fitE x k (updF (gF x k i) i (n : Int))) 16384 := by unfold vF lsE; rw [hp]
  rw [← e] at h1 h2 h3
  refine ⟨h1, ?_, fun m hm => ?_⟩
  · by_cases h4 : vF x k i < 16384
    · exact h3 h4
    · have h5 : vF x k i = 16384 := by omega
      rw [h5, upd_same _ _ _ (by rw [gF_at x k i (Nat.le_refl i)]; unfold farE wdF; rw [if_pos hb]; rfl)]
      exact hf
  · have h5 := h2 (by omega)
    rw [← hm] at h5
    simpa using h5
theorem gF_fit {x : Img} {k : Int} (h : fitE x k (farE x k) = true) : ∀ i, i ≤ 16 → fitE x k (gF x k i) = true
  | 0, _ => h
  | i + 1, hi => by
    have ih := gF_fit h i (by omega)
    by_cases hb : (frE x k).getLsbD i = true
    · rw [gF_yes hb]; exact (gF_step (by omega) ih hb).2.1
    · rw [gF_no (by simpa using hb)]; exact ih
theorem gF_zero {x : Img} {k : Int} {i : Nat} (hi : i < 16) (hb : (frE x k).getLsbD i = false) : gF x k 16 i = 0 := by
  have h1 := gF_keep x k i (15 - i)
  rw [show i + 1 + (15 - i) = 16 by omega] at h1
  rw [h1, gF_no hb, gF_at x k i (Nat.le_refl i)]
  unfold farE wdF
  rw [if_neg (by simp [hb])]
  rfl
theorem gF_val {x : Img} {k : Int} {i : Nat} (hi : i < 16) (hb : (frE x k).getLsbD i = true) : gF x k 16 i = (vF x k i : Nat) := by
  have h1 := gF_keep x k i (15 - i)
  rw [show i + 1 + (15 - i) = 16 by omega] at h1
  rw [h1, gF_yes hb]
  unfold updF
  rw [if_pos rfl]
theorem fdE_no {x : Img} {k : Int} (h : fitE x k (farE x k) = false) : fdE x k = zF := by unfold fdE; rw [if_neg (by simp [h])]
theorem fdE_yes {x : Img} {k : Int} (h : fitE x k (farE x k) = true) : fdE x k = gF x k 16 := by unfold fdE; rw [if_pos h, gF_last]
end Go.Proofs.YtchmdnmifpjfkaaDoor
