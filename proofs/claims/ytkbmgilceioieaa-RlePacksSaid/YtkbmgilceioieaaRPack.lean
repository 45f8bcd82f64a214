/- Plain mathematics of packing run by run; how long packed words are. No statement about the program. -/
import Derived.Test.YtkbmgilceioieaaRGrp
namespace Go.Proofs.Ytkbmgilceioieaa

/-- Words of which none comes often, in groups of 4096. -/
def othF : Nat → List Nat → List Nat
  | 0, _ => []
  | _ + 1, [] => []
  | f + 1, x :: l => (min 4096 (l.length + 1)) :: ((x :: l).take 4096 ++ othF f ((x :: l).drop 4096))
def othS (l : List Nat) : List Nat := othF l.length l
theorem othF_fuel (f g : Nat) (l : List Nat) (hf : l.length ≤ f) (hg : l.length ≤ g) : othF f l = othF g l := by
  induction f generalizing g l with
  | zero =>
    obtain rfl : l = [] := List.length_eq_zero_iff.1 (by omega)
    cases g <;> rfl
  | succ f ih =>
    cases l with
    | nil => cases g <;> rfl
    | cons x l =>
      cases g with
      | zero => simp at hg
      | succ g =>
        unfold othF
        rw [ih g _ (by simp at hf ⊢; omega) (by simp at hg ⊢; omega)]
theorem othS_nil : othS [] = [] := rfl
theorem othS_cons (x : Nat) (l : List Nat) : othS (x :: l) = (min 4096 (l.length + 1)) :: ((x :: l).take 4096 ++ othS ((x :: l).drop 4096)) := by
  show othF (l.length + 1) (x :: l) = _
  unfold othF
  rw [show othF l.length ((x :: l).drop 4096) = othS ((x :: l).drop 4096) from othF_fuel _ _ _ (by simp) (Nat.le_refl _)]
theorem othS_ne {l : List Nat} (h : l ≠ []) : othS l = (min 4096 l.length) :: (l.take 4096 ++ othS (l.drop 4096)) := by
  cases l with
  | nil => exact absurd rfl h
  | cons x l => exact othS_cons x l

theorem short_app {P Q u : List Nat} : Short (P ++ Q) u ↔ Short P (Q ++ u) ∧ Short Q u := by
  induction P with
  | nil => simp [Short]
  | cons x P ih =>
    show (three (x :: (P ++ Q) ++ u) = false ∧ Short (P ++ Q) u) ↔ (three (x :: P ++ (Q ++ u)) = false ∧ Short P (Q ++ u)) ∧ Short Q u
    rw [ih, ← and_assoc]
    simp
theorem pack_ne {l : List Nat} (h : l ≠ []) : packS l = (first l).enc ++ packS (l.drop (firstN l)) := by
  cases l with
  | nil => exact absurd rfl h
  | cons x l => exact packS_cons x l

/-- Words ahead of the end, or of a word that comes often. -/
theorem pack_short {P u : List Nat} (h : Short P u) (hu : u = [] ∨ three u = true) : packS (P ++ u) = othS P ++ packS u := by
  induction hn : P.length using Nat.strongRecOn generalizing P with
  | _ n ih =>
    cases P with
    | nil => rfl
    | cons x P =>
      by_cases hle : (x :: P).length ≤ 4096
      · have hf : First (.oth (x :: P)) u := (first_iff _ _).2 ⟨by simp, hle, h, .inr hu⟩
        obtain ⟨h1, h2, h3⟩ := hf
        simp only [Grp.told] at h1 h2 h3
        rw [pack_ne h1, h2, h3, List.drop_left, othS_ne (by simp), List.take_of_length_le hle, List.drop_of_length_le hle, othS_nil, Nat.min_eq_right hle]
        simp [Grp.enc]
      · have hs : x :: P = (x :: P).take 4096 ++ (x :: P).drop 4096 := (List.take_append_drop ..).symm
        have h' := h
        rw [hs, short_app] at h'
        have hl : ((x :: P).take 4096).length = 4096 := by rw [List.length_take]; omega
        have hf : First (.oth ((x :: P).take 4096)) ((x :: P).drop 4096 ++ u) := (first_iff _ _).2 ⟨by omega, by omega, h'.1, .inl hl⟩
        obtain ⟨h1, h2, h3⟩ := hf
        simp only [Grp.told] at h1 h2 h3
        rw [← List.append_assoc, List.take_append_drop] at h1 h2 h3
        have hr := ih ((x :: P).drop 4096).length (by subst hn; rw [List.length_drop]; simp; omega) h'.2 rfl
        rw [pack_ne h1, h2, h3, hl, othS_ne (by simp), Nat.min_eq_left (by omega)]
        have hd : (x :: P ++ u).drop 4096 = (x :: P).drop 4096 ++ u := by rw [List.drop_append_of_le_length (by omega)]
        rw [hd, hr]
        simp only [Grp.enc, hl, List.cons_append, List.append_assoc]

/-- The state of Pack between two runs: what is packed, where the words begin that are in no group yet. -/
def Inv (l pk : List Nat) (fr to : Nat) : Prop := packS l = pk ++ packS (l.drop fr) ∧ fr ≤ to ∧ to ≤ l.length ∧ Short ((l.drop fr).take (to - fr)) (l.drop to)
theorem inv_start (l : List Nat) : Inv l [] 0 0 := ⟨by simp, by omega, by omega, by simp [Short]⟩
theorem drop_split (l : List Nat) {fr to : Nat} (h : fr ≤ to) : l.drop fr = (l.drop fr).take (to - fr) ++ l.drop to := by
  have := (List.take_append_drop (to - fr) (l.drop fr)).symm
  rwa [List.drop_drop, show fr + (to - fr) = to by omega] at this
theorem often_three {l : List Nat} (h : 3 ≤ often l) : three l = true := by
  have ht := often_take l
  have := List.take_append_drop (often l) l
  rw [ht] at this
  rw [← this]
  exact three_rep h _
theorem inv_many {l pk : List Nat} {fr to : Nat} (h : Inv l pk fr to) (hn : 3 ≤ often (l.drop to)) :
    Inv l (pk ++ othS ((l.drop fr).take (to - fr)) ++ [2147483648 + often (l.drop to), (l.drop to).headD 0]) (to + often (l.drop to)) (to + often (l.drop to)) := by
  obtain ⟨h1, h2, h3, h4⟩ := h
  have ht := often_three hn
  have hne : l.drop to ≠ [] := by intro e; rw [e] at ht; simp [three] at ht
  have hle := often_le (l.drop to)
  rw [List.length_drop] at hle
  have e1 : first (l.drop to) = .rep (often (l.drop to)) ((l.drop to).headD 0) := by unfold first; rw [ht]; rfl
  have e2 : firstN (l.drop to) = often (l.drop to) := by unfold firstN; rw [ht]; rfl
  refine ⟨?_, by omega, by omega, by simp [Short]⟩
  rw [h1, drop_split l h2, pack_short h4 (.inr ht), pack_ne hne, e1, e2, List.drop_drop]
  rw [← drop_split l h2]
  simp [Grp.enc]
theorem short_run {l : List Nat} (hne : l ≠ []) (hn : often l < 3) : Short (l.take (often l)) (l.drop (often l)) := by
  cases l with
  | nil => exact absurd rfl hne
  | cons x l =>
    rw [often_cons] at hn ⊢
    have hr := rep_same x 4095 l
    have hhd : (l.drop (same x 4095 l)).head? ≠ some x := by
      rcases hr with h | h
      · omega
      · exact h
    have ht := same_take x 4095 l
    rw [List.take_succ_cons, List.drop_succ_cons, ht]
    generalize hm : same x 4095 l = m at *
    generalize hu : l.drop m = u at *
    have base : three (x :: u) = false := by
      cases u with
      | nil => rfl
      | cons y u =>
        have : ¬ y = x := by simpa using hhd
        cases u <;> simp [three, this]
    match m, hn with
    | 0, _ => exact ⟨base, trivial⟩
    | 1, _ =>
      refine ⟨?_, base, trivial⟩
      cases u with
      | nil => simp [three]
      | cons y u =>
        have : ¬ y = x := by simpa using hhd
        simp [three, this]
theorem inv_few {l pk : List Nat} {fr to : Nat} (h : Inv l pk fr to) (hlt : to < l.length) (hn : often (l.drop to) < 3) : Inv l pk fr (to + often (l.drop to)) := by
  obtain ⟨h1, h2, h3, h4⟩ := h
  have hne : l.drop to ≠ [] := by intro e; have := congrArg List.length e; simp at this; omega
  have hle := often_le (l.drop to)
  rw [List.length_drop] at hle
  have hs := short_run hne hn
  refine ⟨h1, by omega, by omega, ?_⟩
  have e : (l.drop fr).take (to + often (l.drop to) - fr) = (l.drop fr).take (to - fr) ++ (l.drop to).take (often (l.drop to)) := by
    have hd := drop_split l h2
    have hl : ((l.drop fr).take (to - fr)).length = to - fr := by rw [List.length_take, List.length_drop]; omega
    rw [show to + often (l.drop to) - fr = (to - fr) + often (l.drop to) by omega, List.take_add, List.drop_drop, show fr + (to - fr) = to by omega]
  rw [e, short_app, ← List.drop_drop, List.take_append_drop]
  exact ⟨h4, hs⟩
theorem inv_end {l pk : List Nat} {fr : Nat} (h : Inv l pk fr l.length) : packS l = pk ++ othS ((l.drop fr).take (l.length - fr)) := by
  obtain ⟨h1, h2, h3, h4⟩ := h
  rw [List.drop_length] at h4
  have := pack_short h4 (.inl rfl)
  rw [List.append_nil, packS_nil, List.append_nil] at this
  rw [h1, ← this]
  congr 2
  rw [List.take_of_length_le (by rw [List.length_drop]; omega)]

/-! ### Runs -/
def runF : Nat → List Nat → List Nat
  | 0, _ => []
  | _ + 1, [] => []
  | f + 1, x :: l => often (x :: l) :: runF f ((x :: l).drop (often (x :: l)))
/-- How long the runs are. -/
def runL (l : List Nat) : List Nat := runF l.length l
theorem runF_fuel (f g : Nat) (l : List Nat) (hf : l.length ≤ f) (hg : l.length ≤ g) : runF f l = runF g l := by
  induction f generalizing g l with
  | zero =>
    obtain rfl : l = [] := List.length_eq_zero_iff.1 (by omega)
    cases g <;> rfl
  | succ f ih =>
    cases l with
    | nil => cases g <;> rfl
    | cons x l =>
      cases g with
      | zero => simp at hg
      | succ g =>
        unfold runF
        have hp := often_pos (l := x :: l) (by simp)
        rw [ih g _ (by simp at hf ⊢; omega) (by simp at hg ⊢; omega)]
theorem runL_cons (x : Nat) (l : List Nat) : runL (x :: l) = often (x :: l) :: runL ((x :: l).drop (often (x :: l))) := by
  have hp := often_pos (l := x :: l) (by simp)
  show runF (l.length + 1) (x :: l) = _
  unfold runF
  congr 1
  exact runF_fuel _ _ _ (by simp; omega) (Nat.le_refl _)
theorem runL_ne {l : List Nat} (h : l ≠ []) : runL l = often l :: runL (l.drop (often l)) := by
  cases l with
  | nil => exact absurd rfl h
  | cons x l => exact runL_cons x l
/-- Where the k-th run begins. -/
def posR (l : List Nat) (k : Nat) : Nat := ((runL l).take k).sum
theorem runL_drop (l : List Nat) (k : Nat) (hk : k ≤ (runL l).length) : runL (l.drop (posR l k)) = (runL l).drop k ∧ posR l k ≤ l.length := by
  induction k with
  | zero => simp [posR]
  | succ k ih =>
    obtain ⟨h1, h2⟩ := ih (by omega)
    have hne : l.drop (posR l k) ≠ [] := by
      intro e
      rw [e] at h1
      have : ((runL l).drop k).length = 0 := by rw [← h1]; rfl
      rw [List.length_drop] at this; omega
    rw [runL_ne hne] at h1
    have hle := often_le (l.drop (posR l k))
    rw [List.length_drop] at hle
    have e0 : (runL l)[k]? = some (often (l.drop (posR l k))) := by
      have := congrArg (·[0]?) h1
      simpa using this.symm
    have e1 : posR l (k + 1) = posR l k + often (l.drop (posR l k)) := by
      unfold posR at *
      rw [List.take_add_one, e0]
      simp
    refine ⟨?_, by omega⟩
    rw [e1, ← List.drop_drop]
    have := congrArg List.tail h1
    simpa using this
theorem run_at (l : List Nat) (k : Nat) (hk : k < (runL l).length) : (runL l)[k]? = some (often (l.drop (posR l k))) ∧ posR l (k + 1) = posR l k + often (l.drop (posR l k)) ∧ posR l k < l.length := by
  obtain ⟨h1, h2⟩ := runL_drop l k (by omega)
  have hne : l.drop (posR l k) ≠ [] := by
    intro e
    rw [e] at h1
    have : ((runL l).drop k).length = 0 := by rw [← h1]; rfl
    rw [List.length_drop] at this; omega
  rw [runL_ne hne] at h1
  have e0 : (runL l)[k]? = some (often (l.drop (posR l k))) := by
    have := congrArg (·[0]?) h1
    simpa using this.symm
  refine ⟨e0, ?_, ?_⟩
  · unfold posR at *
    rw [List.take_add_one, e0]
    simp
  · rcases Nat.lt_or_ge (posR l k) l.length with h | h
    · exact h
    · exact absurd (List.drop_of_length_le h) hne
theorem posR_end (l : List Nat) : posR l (runL l).length = l.length := by
  obtain ⟨h1, h2⟩ := runL_drop l (runL l).length (Nat.le_refl _)
  rw [List.drop_length] at h1
  rcases Nat.lt_or_ge (posR l (runL l).length) l.length with h | h
  · have hne : l.drop (posR l (runL l).length) ≠ [] := by
      intro e; have := congrArg List.length e; simp at this; omega
    rw [runL_ne hne] at h1; cases h1
  · omega
theorem runL_len (l : List Nat) : (runL l).length ≤ l.length := by
  induction h : l.length using Nat.strongRecOn generalizing l with
  | _ n ih =>
    cases l with
    | nil => simp [runL, runF]
    | cons x l =>
      have hp := often_pos (l := x :: l) (by simp)
      rw [runL_cons]
      have := ih ((x :: l).drop (often (x :: l))).length (by subst h; rw [List.length_drop]; simp; omega) _ rfl
      rw [List.length_drop] at this
      simp at this h ⊢
      omega

/-! ### How long packed words are -/
theorem small_all (w many : Nat) (h : 3 ≤ many) (hm : many % 4096 = 0 ∨ 3 ≤ many % 4096) : (packS (List.replicate many w)).length = 2 * ((many + 4095) / 4096) := by
  induction hn : many using Nat.strongRecOn generalizing many with
  | _ n ih =>
    subst hn
    by_cases hle : many ≤ 4096
    · have hf : First (.rep many w) [] := (first_iff _ _).2 ⟨h, hle, .inr (by simp)⟩
      obtain ⟨h1, h2, h3⟩ := hf
      simp only [Grp.told, List.append_nil, List.length_replicate] at h1 h2 h3
      rw [pack_ne h1, h2, h3, List.drop_of_length_le (by simp), packS_nil]
      simp [Grp.enc]
      omega
    · have hf : First (.rep 4096 w) (List.replicate (many - 4096) w) := (first_iff _ _).2 ⟨by omega, by omega, .inl rfl⟩
      obtain ⟨h1, h2, h3⟩ := hf
      simp only [Grp.told, List.length_replicate, List.replicate_append_replicate, show 4096 + (many - 4096) = many by omega] at h1 h2 h3
      rw [pack_ne h1, h2, h3, List.drop_replicate]
      have := ih (many - 4096) (by omega) (many - 4096) (by omega) (by omega) rfl
      rw [List.length_append, this]
      simp [Grp.enc]
      omega
theorem small_any (l : List Nat) : (packS l).length ≤ l.length + l.length / 2 + 1 ∧ ((l = [] ∨ three l = true) → (packS l).length ≤ l.length + l.length / 2) := by
  induction hn : l.length using Nat.strongRecOn generalizing l with
  | _ n ih =>
    subst hn
    cases l with
    | nil => simp [packS_nil]
    | cons x l =>
      have hp := firstN_pos (l := x :: l) (by simp)
      have hle := firstN_le (x :: l)
      have hr := ih ((x :: l).drop (firstN (x :: l))).length (by rw [List.length_drop]; simp; omega) _ rfl
      rw [packS_cons, List.length_append]
      have hl : ((x :: l).drop (firstN (x :: l))).length = (x :: l).length - firstN (x :: l) := List.length_drop ..
      rw [hl] at hr
      generalize hL : (x :: l).length = L at *
      generalize hR : (packS ((x :: l).drop (firstN (x :: l)))).length = R at *
      cases ht : three (x :: l) with
      | true =>
        have e1 : (first (x :: l)).enc.length = 2 := by unfold first; rw [ht]; rfl
        have e2 : 3 ≤ firstN (x :: l) := by
          have hg := (first_iff (first (x :: l)) ((x :: l).drop (firstN (x :: l)))).1 (by
            have hg := good_groups (x :: l)
            rw [groups_cons] at hg
            have := hg.1
            rwa [groups_told] at this)
          have ef : first (x :: l) = .rep (often (x :: l)) ((x :: l).headD 0) := by unfold first; rw [ht]; rfl
          rw [ef] at hg
          have := hg.1
          unfold firstN; rw [ht]; simpa using this
        rw [e1]
        refine ⟨?_, fun _ => ?_⟩ <;> omega
      | false =>
        have ef : first (x :: l) = .oth ((x :: l).take (oths 4096 (x :: l))) := by unfold first; rw [ht]; rfl
        have en : firstN (x :: l) = oths 4096 (x :: l) := by unfold firstN; rw [ht]; rfl
        have e1 : (first (x :: l)).enc.length = firstN (x :: l) + 1 := by
          rw [ef, en]; simp only [Grp.enc, List.length_cons, List.length_take]
          rw [en] at hle
          have hL' : l.length + 1 = L := by simpa using hL
          omega
        have hs := (short_oths 4096 (x :: l)).2
        rw [← en] at hs
        rw [e1]
        refine ⟨?_, fun h => ?_⟩
        · rcases hs with h | h
          · omega
          · have := hr.2 h; omega
        · rcases h with h | h
          · cases h
          · cases h
end Go.Proofs.Ytkbmgilceioieaa
