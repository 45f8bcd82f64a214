/- Plain mathematics: the code's checks of groups two by two, as they come one by one. No statement about the program. -/
import Derived.Test.YtkbmgilceioieaaRG
namespace Go.Proofs.Ytkbmgilceioieaa

def lastG : Option Grp → List Grp → List Grp
  | o, [] => o.toList
  | _, g :: r => lastG (some g) r
theorem lastG_snoc (o : Option Grp) (r : List Grp) (g : Grp) : lastG o (r ++ [g]) = [g] := by
  induction r generalizing o with
  | nil => rfl
  | cons x r ih => exact ih _
theorem chk_snoc (o : Option Grp) (r : List Grp) (g : Grp) : Chk o (r ++ [g]) ↔ Chk o r ∧ packS (toldG (lastG o r ++ [g])) = encG (lastG o r ++ [g]) := by
  induction r generalizing o with
  | nil =>
    cases o with
    | none => show packS (toldG [g]) = encG [g] ∧ True ↔ True ∧ packS (toldG [g]) = encG [g]; simp
    | some p => show packS (toldG [p, g]) = encG [p, g] ∧ True ↔ True ∧ packS (toldG [p, g]) = encG [p, g]; simp
  | cons x r ih =>
    cases o with
    | none =>
      show packS (toldG [x]) = encG [x] ∧ Chk (some x) (r ++ [g]) ↔ (packS (toldG [x]) = encG [x] ∧ Chk (some x) r) ∧ packS (toldG (lastG (some x) r ++ [g])) = encG (lastG (some x) r ++ [g])
      rw [ih]
      exact ⟨fun ⟨a, b, c⟩ => ⟨⟨a, b⟩, c⟩, fun ⟨⟨a, b⟩, c⟩ => ⟨a, b, c⟩⟩
    | some p =>
      show packS (toldG [p, x]) = encG [p, x] ∧ Chk (some x) (r ++ [g]) ↔ (packS (toldG [p, x]) = encG [p, x] ∧ Chk (some x) r) ∧ packS (toldG (lastG (some x) r ++ [g])) = encG (lastG (some x) r ++ [g])
      rw [ih]
      exact ⟨fun ⟨a, b, c⟩ => ⟨⟨a, b⟩, c⟩, fun ⟨⟨a, b⟩, c⟩ => ⟨a, b, c⟩⟩

/-- Group number k with the one ahead of it. -/
def prG (l : List Nat) (k : Nat) : List Grp := ((parse l).1.take (k + 1)).drop (k - 1)
theorem prG_take (l : List Nat) (k : Nat) : (parse l).1.take (k + 1) = (parse l).1.take (k - 1) ++ prG l k := by
  have h := List.take_append_drop (k - 1) ((parse l).1.take (k + 1))
  rw [List.take_take, Nat.min_eq_left (by omega)] at h
  exact h.symm
theorem take_snoc (l : List Nat) (k : Nat) (hk : k < (parse l).1.length) : (parse l).1.take (k + 1) = (parse l).1.take k ++ [(parse l).1[k]] := List.take_succ_eq_append_getElem hk
theorem prG_last (l : List Nat) (k : Nat) (hk : k < (parse l).1.length) : prG l k = lastG none ((parse l).1.take k) ++ [(parse l).1[k]] := by
  unfold prG
  rw [take_snoc l k hk]
  cases k with
  | zero => simp [lastG]
  | succ j =>
    rw [take_snoc l j (by omega), lastG_snoc]
    have h1 : ((parse l).1.take j).length = j := by rw [List.length_take]; omega
    rw [List.append_assoc]
    exact List.drop_left' (by omega)
theorem prG_mem (l : List Nat) (k : Nat) : ∀ g ∈ prG l k, Wf g := by
  intro g hg
  exact (parse_enc l).2 g (List.mem_of_mem_take (List.mem_of_mem_drop hg))
theorem prG_parse (l : List Nat) (k : Nat) : parse (encG (prG l k)) = (prG l k, []) := parse_of_enc (prG_mem l k)
theorem prG_chk (l : List Nat) (k : Nat) (hk : k < (parse l).1.length) : Chk none ((parse l).1.take (k + 1)) ↔ Chk none ((parse l).1.take k) ∧ packS (toldG (prG l k)) = encG (prG l k) := by
  rw [take_snoc l k hk, chk_snoc, ← prG_last l k hk]
theorem encG_app (a b : List Grp) : encG (a ++ b) = encG a ++ encG b := by simp [encG]
theorem toldG_app (a b : List Grp) : toldG (a ++ b) = toldG a ++ toldG b := by simp [toldG]
theorem posG_le (l : List Nat) (k : Nat) : posG l k ≤ l.length := by
  have h := congrArg List.length (parse_enc l).1
  have h2 : encG (parse l).1 = encG ((parse l).1.take k) ++ encG ((parse l).1.drop k) := by rw [← encG_app, List.take_append_drop]
  rw [h2, List.length_append, List.length_append] at h
  unfold posG
  omega
theorem prG_words (l : List Nat) (k : Nat) : (l.drop (posG l (k - 1))).take (posG l (k + 1) - posG l (k - 1)) = encG (prG l k) ∧ posG l (k + 1) = posG l (k - 1) + (encG (prG l k)).length := by
  have h1 := prG_take l k
  have h2 : posG l (k + 1) = posG l (k - 1) + (encG (prG l k)).length := by
    unfold posG
    rw [h1, encG_app, List.length_append]
  refine ⟨?_, h2⟩
  have h3 : l = encG ((parse l).1.take (k - 1)) ++ (encG (prG l k) ++ (encG ((parse l).1.drop (k + 1)) ++ (parse l).2)) := by
    conv => lhs; rw [← (parse_enc l).1, ← List.take_append_drop (k + 1) (parse l).1, encG_app, h1, encG_app]
    simp
  have h4 : l.drop (posG l (k - 1)) = encG (prG l k) ++ (encG ((parse l).1.drop (k + 1)) ++ (parse l).2) :=
    (congrArg (List.drop (posG l (k - 1))) h3).trans (List.drop_left' rfl)
  rw [h4, h2, Nat.add_sub_cancel_left, List.take_left]
theorem wf_told {g : Grp} (h : Wf g) : g.told.length ≤ 4096 := by
  cases g with
  | rep n x => simpa [Grp.told, Wf] using h
  | oth ws => exact h
theorem prG_told (l : List Nat) (k : Nat) (hk : k < (parse l).1.length) : (toldG (prG l k)).length ≤ 8192 := by
  have hw := prG_mem l k
  rw [prG_last l k hk] at hw ⊢
  rw [toldG_app, List.length_append]
  have h1 : (toldG [(parse l).1[k]]).length ≤ 4096 := by
    simp only [toldG, List.flatMap_cons, List.flatMap_nil, List.append_nil]
    exact wf_told (hw _ (by simp))
  have h2 : (toldG (lastG none ((parse l).1.take k))).length ≤ 4096 := by
    cases k with
    | zero => simp [lastG, toldG]
    | succ j =>
      rw [take_snoc l j (by omega), lastG_snoc] at hw ⊢
      simp only [toldG, List.flatMap_cons, List.flatMap_nil, List.append_nil]
      exact wf_told (hw _ (by simp))
  omega
theorem told_lt (gs : List Grp) (h : ∀ x ∈ encG gs, x < 4294967296) : ∀ x ∈ toldG gs, x < 4294967296 := by
  intro x hx
  unfold toldG at hx
  obtain ⟨g, hg, hx⟩ := List.mem_flatMap.1 hx
  cases g with
  | rep n y =>
    have := List.eq_of_mem_replicate hx
    subst this
    exact h _ (List.mem_flatMap.2 ⟨_, hg, by simp [Grp.enc]⟩)
  | oth ws => exact h _ (List.mem_flatMap.2 ⟨_, hg, List.mem_cons_of_mem _ hx⟩)
/-- Are these the groups that Pack makes of the words that they tell, and are those at most so many? -/
def rightB (most : Nat) (l : List Nat) : Bool := decide (packS (toldG (parse l).1) = l ∧ (toldG (parse l).1).length ≤ most)
theorem rightB_true {most : Nat} {l : List Nat} : rightB most l = true ↔ RightL most l (toldG (parse l).1) := by unfold rightB RightL; exact decide_eq_true_iff
/-- What a whole walk finds. -/
theorem right_end (most : Nat) (l : List Nat) (ht : (toldG (parse l).1).length ≤ most) (hc : Chk none (parse l).1) : rightB most l = decide (posG l (parse l).1.length = l.length) := by
  have h1 := (grp_end l).2
  have h2 := posG_le l (parse l).1.length
  have h3 := congrArg List.length h1
  rw [List.length_drop] at h3
  rw [Bool.eq_iff_iff, rightB_true, decide_eq_true_iff, ← right_iff]
  constructor
  · rintro ⟨h4, -, -⟩
    rw [h4] at h3; simp at h3; omega
  · intro h4
    refine ⟨List.eq_nil_of_length_eq_zero (by omega), ht, hc⟩
theorem chk_left (o : Option Grp) (a b : List Grp) (h : Chk o (a ++ b)) : Chk o a := by
  induction a generalizing o with
  | nil => cases o <;> trivial
  | cons x a ih =>
    cases o with
    | none => exact ⟨h.1, ih _ h.2⟩
    | some p => exact ⟨h.1, ih _ h.2⟩
/-- What a walk finds that is broken off in round k. -/
theorem right_stop (most : Nat) (l : List Nat) (k : Nat) (h : most < (toldK l (k + 1)).length ∨ ¬ Chk none ((parse l).1.take (k + 1))) : rightB most l = false := by
  rw [Bool.eq_false_iff]
  intro hr
  obtain ⟨-, h1, h2⟩ := (right_iff most l).2 (rightB_true.1 hr)
  rcases h with h | h
  · have e : toldG (parse l).1 = toldK l (k + 1) ++ toldG ((parse l).1.drop (k + 1)) := by unfold toldK; rw [← toldG_app, List.take_append_drop]
    rw [e, List.length_append] at h1
    omega
  · apply h
    rw [← List.take_append_drop (k + 1) (parse l).1] at h2
    exact chk_left _ _ _ h2
end Go.Proofs.Ytkbmgilceioieaa
