/- Plain mathematics of words in groups: how words are packed, that what is packed is told again, and that groups are right just if each two of them are. No statement about the program. -/
namespace Go.Proofs.Ytkbmgilceioieaa

/-- Does a word come three times in a row, here? -/
def three : List Nat → Bool
  | a :: b :: c :: _ => decide (b = a) && decide (c = a)
  | _ => false
/-- How often the first word comes in a row, at most m times more. -/
def same (x : Nat) : Nat → List Nat → Nat
  | m + 1, y :: l => if y = x then same x m l + 1 else 0
  | _, _ => 0
/-- How often the first word of a list comes in a row, at most 4096 times. -/
def often : List Nat → Nat
  | [] => 0
  | x :: l => same x 4095 l + 1
/-- How many words come ahead of the next one that comes three times in a row, at most m. -/
def oths : Nat → List Nat → Nat
  | m + 1, x :: l => if three (x :: l) then 0 else oths m l + 1
  | _, _ => 0

inductive Grp where
  | rep (n x : Nat)
  | oth (ws : List Nat)
def Grp.told : Grp → List Nat
  | .rep n x => List.replicate n x
  | .oth ws => ws
def Grp.enc : Grp → List Nat
  | .rep n x => [2147483648 + n, x]
  | .oth ws => ws.length :: ws
def toldG (gs : List Grp) : List Nat := gs.flatMap Grp.told
def encG (gs : List Grp) : List Nat := gs.flatMap Grp.enc

/-- The first group of words. -/
def first (l : List Nat) : Grp := if three l then .rep (often l) (l.headD 0) else .oth (l.take (oths 4096 l))
def firstN (l : List Nat) : Nat := if three l then often l else oths 4096 l

theorem same_le (x m : Nat) (l : List Nat) : same x m l ≤ m ∧ same x m l ≤ l.length := by
  induction m generalizing l with
  | zero => cases l <;> simp [same]
  | succ m ih =>
    cases l with
    | nil => simp [same]
    | cons y l =>
      unfold same
      split
      · have := ih l; simp; omega
      · simp
theorem oths_le (m : Nat) (l : List Nat) : oths m l ≤ m ∧ oths m l ≤ l.length := by
  induction m generalizing l with
  | zero => cases l <;> simp [oths]
  | succ m ih =>
    cases l with
    | nil => simp [oths]
    | cons y l =>
      unfold oths
      split
      · simp
      · have := ih l; simp; omega
theorem often_le (l : List Nat) : often l ≤ 4096 ∧ often l ≤ l.length := by
  cases l with
  | nil => simp [often]
  | cons x l => show same x 4095 l + 1 ≤ 4096 ∧ same x 4095 l + 1 ≤ _; have := same_le x 4095 l; simp; omega
theorem often_cons (x : Nat) (l : List Nat) : often (x :: l) = same x 4095 l + 1 := rfl
theorem often_pos {l : List Nat} (h : l ≠ []) : 0 < often l := by
  cases l with
  | nil => exact absurd rfl h
  | cons x l => rw [often_cons]; omega
theorem three_len {l : List Nat} (h : three l = true) : 3 ≤ l.length := by
  match l with
  | a :: b :: c :: _ => simp
  | [] => simp [three] at h
  | [_] => simp [three] at h
  | [_, _] => simp [three] at h
theorem firstN_pos {l : List Nat} (h : l ≠ []) : 0 < firstN l := by
  unfold firstN
  cases ht : three l with
  | true => simp; exact often_pos h
  | false =>
    simp
    cases l with
    | nil => exact absurd rfl h
    | cons x l => unfold oths; rw [ht]; simp
theorem firstN_le (l : List Nat) : firstN l ≤ l.length ∧ firstN l ≤ 4096 := by
  unfold firstN
  cases three l with
  | true => simp; have := often_le l; omega
  | false => simp; have := oths_le 4096 l; omega

/-- The groups of words, by fuel. -/
def groupsF : Nat → List Nat → List Grp
  | 0, _ => []
  | _ + 1, [] => []
  | f + 1, x :: l => first (x :: l) :: groupsF f ((x :: l).drop (firstN (x :: l)))
def groups (l : List Nat) : List Grp := groupsF l.length l
theorem groupsF_fuel (f g : Nat) (l : List Nat) (hf : l.length ≤ f) (hg : l.length ≤ g) : groupsF f l = groupsF g l := by
  induction f generalizing g l with
  | zero =>
    obtain rfl : l = [] := List.length_eq_zero_iff.1 (by omega)
    cases g <;> rfl
  | succ f ih =>
    cases l with
    | nil => cases g <;> rfl
    | cons x l =>
      cases g with
      | zero => simp at hg
      | succ g =>
        unfold groupsF
        have hp := firstN_pos (l := x :: l) (by simp)
        rw [ih g _ (by simp at hf ⊢; omega) (by simp at hg ⊢; omega)]
theorem groups_nil : groups [] = [] := rfl
theorem groups_cons (x : Nat) (l : List Nat) : groups (x :: l) = first (x :: l) :: groups ((x :: l).drop (firstN (x :: l))) := by
  have hp := firstN_pos (l := x :: l) (by simp)
  show groupsF (l.length + 1) (x :: l) = _
  unfold groupsF
  congr 1
  exact groupsF_fuel _ _ _ (by simp; omega) (Nat.le_refl _)
/-- What Pack gives. -/
def packS (l : List Nat) : List Nat := encG (groups l)
theorem packS_nil : packS [] = [] := rfl
theorem packS_cons (x : Nat) (l : List Nat) : packS (x :: l) = (first (x :: l)).enc ++ packS ((x :: l).drop (firstN (x :: l))) := by
  unfold packS; rw [groups_cons]; simp [encG]

theorem same_take (x m : Nat) (l : List Nat) : l.take (same x m l) = List.replicate (same x m l) x := by
  induction m generalizing l with
  | zero => cases l <;> simp [same]
  | succ m ih =>
    cases l with
    | nil => simp [same]
    | cons y l =>
      unfold same
      split
      · rename_i e; subst e; rw [List.take_succ_cons, List.replicate_succ, ih]
      · simp
theorem often_take (l : List Nat) : l.take (often l) = List.replicate (often l) (l.headD 0) := by
  cases l with
  | nil => rfl
  | cons x l =>
    rw [often_cons, List.take_succ_cons, same_take]
    simp [List.replicate_succ]
theorem first_told (l : List Nat) : (first l).told = l.take (firstN l) := by
  unfold first firstN
  cases three l with
  | true => simp only [if_true, Grp.told]; exact (often_take l).symm
  | false => simp [Grp.told]
theorem groups_told (l : List Nat) : toldG (groups l) = l := by
  induction h : l.length using Nat.strongRecOn generalizing l with
  | _ n ih =>
    cases l with
    | nil => rfl
    | cons x l =>
      have hp := firstN_pos (l := x :: l) (by simp)
      rw [groups_cons]
      unfold toldG
      rw [List.flatMap_cons]
      have := ih ((x :: l).drop (firstN (x :: l))).length (by subst h; rw [List.length_drop]; simp; omega) _ rfl
      unfold toldG at this
      rw [this, first_told, List.take_append_drop]

/-! ### Which groups are right -/
/-- g is the first group of its words and of those behind. -/
def First (g : Grp) (u : List Nat) : Prop := g.told ++ u ≠ [] ∧ first (g.told ++ u) = g ∧ firstN (g.told ++ u) = g.told.length
def Good : List Grp → Prop
  | [] => True
  | g :: r => First g (toldG r) ∧ Good r
theorem good_groups (l : List Nat) : Good (groups l) := by
  induction h : l.length using Nat.strongRecOn generalizing l with
  | _ n ih =>
    cases l with
    | nil => trivial
    | cons x l =>
      have hp := firstN_pos (l := x :: l) (by simp)
      have hl := firstN_le (x :: l)
      rw [groups_cons]
      refine ⟨?_, ih _ (by subst h; rw [List.length_drop]; simp; omega) _ rfl⟩
      have e : (first (x :: l)).told ++ toldG (groups ((x :: l).drop (firstN (x :: l)))) = x :: l := by
        rw [groups_told, first_told, List.take_append_drop]
      unfold First
      rw [e, first_told, List.length_take, Nat.min_eq_left hl.1]
      exact ⟨by simp, rfl, rfl⟩
theorem groups_good {gs : List Grp} (h : Good gs) : groups (toldG gs) = gs := by
  induction gs with
  | nil => rfl
  | cons g r ih =>
    obtain ⟨⟨h1, h2, h3⟩, h4⟩ := h
    have e : toldG (g :: r) = g.told ++ toldG r := by simp [toldG]
    rw [e]
    cases hl : g.told ++ toldG r with
    | nil => exact absurd hl h1
    | cons x l =>
      rw [groups_cons, ← hl, h2, h3, List.drop_left, ih h4]

/-! ### The conditions, group by group -/
theorem three_prefix {l u : List Nat} (h : three l = true) : three (l ++ u) = true := by
  match l, h with
  | a :: b :: c :: _, h => simpa [three] using h
  | [], h => simp [three] at h
  | [_], h => simp [three] at h
  | [_, _], h => simp [three] at h
/-- no word comes three times in a row, beginning within ws -/
def Short : List Nat → List Nat → Prop
  | [], _ => True
  | x :: ws, u => three (x :: ws ++ u) = false ∧ Short ws u
theorem short_prefix {ws u v : List Nat} (h : Short ws (u ++ v)) : Short ws u := by
  induction ws with
  | nil => trivial
  | cons x ws ih =>
    refine ⟨?_, ih h.2⟩
    cases ht : three (x :: ws ++ u) with
    | false => rfl
    | true =>
      have := three_prefix (u := v) ht
      rw [List.append_assoc] at this
      rw [h.1] at this; cases this
theorem oths_short {ws u : List Nat} (h : Short ws u) (m : Nat) (hm : ws.length ≤ m) (he : m = ws.length ∨ u = [] ∨ three u = true) : oths m (ws ++ u) = ws.length := by
  induction ws generalizing m with
  | nil =>
    cases m with
    | zero => cases u <;> simp [oths]
    | succ m =>
      cases u with
      | nil => simp [oths]
      | cons y u =>
        rcases he with he | he | he
        · simp at he
        · cases he
        · simp [oths, he]
  | cons x ws ih =>
    cases m with
    | zero => simp at hm
    | succ m =>
      have h1 := h.1
      show oths (m + 1) (x :: (ws ++ u)) = _
      unfold oths
      rw [show x :: (ws ++ u) = x :: ws ++ u from rfl, h1]
      simp
      exact ih h.2 m (by simpa using hm) (by rcases he with he | he | he; exact .inl (by simpa using he); exact .inr (.inl he); exact .inr (.inr he))
theorem short_oths (m : Nat) (l : List Nat) : Short (l.take (oths m l)) (l.drop (oths m l)) ∧ (oths m l = m ∨ l.drop (oths m l) = [] ∨ three (l.drop (oths m l)) = true) := by
  induction m generalizing l with
  | zero => cases l <;> simp [oths, Short]
  | succ m ih =>
    cases l with
    | nil => simp [oths, Short]
    | cons x l =>
      unfold oths
      cases ht : three (x :: l) with
      | true => simp [Short, ht]
      | false =>
        simp
        have := ih l
        refine ⟨⟨?_, this.1⟩, ?_⟩
        · rw [List.cons_append, List.take_append_drop]; exact ht
        · rw [← List.drop_eq_nil_iff]; exact this.2
theorem same_rep (x m n : Nat) (u : List Nat) (h : n ≤ m) (he : n = m ∨ u.head? ≠ some x) : same x m (List.replicate n x ++ u) = n := by
  induction n generalizing m with
  | zero =>
    cases m with
    | zero => cases u <;> simp [same]
    | succ m =>
      cases u with
      | nil => simp [same]
      | cons y u =>
        rcases he with he | he
        · cases he
        · have : ¬ y = x := by simpa using he
          simp [same, this]
  | succ n ih =>
    cases m with
    | zero => omega
    | succ m =>
      rw [List.replicate_succ, List.cons_append]
      simp only [same, if_true]
      rw [ih m (by omega) (by rcases he with he | he; exact .inl (by omega); exact .inr he)]
theorem rep_same (x m : Nat) (l : List Nat) : same x m l = m ∨ (l.drop (same x m l)).head? ≠ some x := by
  induction m generalizing l with
  | zero => cases l <;> simp [same]
  | succ m ih =>
    cases l with
    | nil => simp [same]
    | cons y l =>
      unfold same
      split
      · have := ih l; simp; simpa using this
      · rename_i hn; right; simpa using hn

/-- The conditions on a group. -/
def Cond (g : Grp) (u : List Nat) : Prop :=
  match g with
  | .rep n x => 3 ≤ n ∧ n ≤ 4096 ∧ (n = 4096 ∨ u.head? ≠ some x)
  | .oth ws => 0 < ws.length ∧ ws.length ≤ 4096 ∧ Short ws u ∧ (ws.length = 4096 ∨ u = [] ∨ three u = true)
theorem first_iff (g : Grp) (u : List Nat) : First g u ↔ Cond g u := by
  cases g with
  | rep n x =>
    constructor
    · rintro ⟨h1, h2, h3⟩
      simp only [Grp.told, List.length_replicate] at h1 h2 h3
      unfold first at h2
      unfold firstN at h3
      cases ht : three (List.replicate n x ++ u) with
      | false => rw [ht] at h2; simp at h2
      | true =>
        rw [ht] at h2 h3
        simp at h2 h3
        have hle := often_le (List.replicate n x ++ u)
        have hn3 : 3 ≤ n := by
          match hn : n with
          | 0 =>
            have : 0 < often (List.replicate 0 x ++ u) := often_pos h1
            omega
          | 1 =>
            exfalso
            match u, ht with
            | b :: c :: _, ht =>
              simp [three] at ht
              obtain ⟨rfl, rfl⟩ := ht
              simp [often, same] at h3
            | [], ht => simp [three] at ht
            | [_], ht => simp [three] at ht
          | 2 =>
            exfalso
            match u, ht with
            | c :: _, ht =>
              simp [three, List.replicate] at ht
              subst ht
              simp [often, same, List.replicate] at h3
            | [], ht => simp [three, List.replicate] at ht
          | n + 3 => omega
        refine ⟨hn3, by omega, ?_⟩
        obtain ⟨k, rfl⟩ : ∃ k, n = k + 1 := ⟨n - 1, by omega⟩
        rw [List.replicate_succ, List.cons_append, often_cons] at h3
        have := rep_same x 4095 (List.replicate k x ++ u)
        have hk : same x 4095 (List.replicate k x ++ u) = k := by omega
        rw [hk, List.drop_left' (by simp)] at this
        rcases this with this | this
        · exact .inl (by omega)
        · exact .inr this
    · rintro ⟨h1, h2, h3⟩
      obtain ⟨k, rfl⟩ : ∃ k, n = k + 3 := ⟨n - 3, by omega⟩
      have ho : often (List.replicate (k + 3) x ++ u) = k + 3 := by
        show often (x :: (List.replicate (k + 2) x ++ u)) = _
        rw [often_cons, same_rep x 4095 (k + 2) u (by omega) (by rcases h3 with h3 | h3; exact .inl (by omega); exact .inr h3)]
      have ht : three (List.replicate (k + 3) x ++ u) = true := by simp [List.replicate, three]
      refine ⟨by simp [Grp.told, List.replicate], ?_, ?_⟩
      · unfold first
        simp only [Grp.told, ht, if_true, ho]
        simp [List.replicate]
      · unfold firstN
        simp only [Grp.told, ht, if_true, ho]
        simp
  | oth ws =>
    constructor
    · rintro ⟨h1, h2, h3⟩
      simp only [Grp.told] at h1 h2 h3
      unfold first at h2
      unfold firstN at h3
      cases ht : three (ws ++ u) with
      | true => rw [ht] at h2; simp at h2
      | false =>
        rw [ht] at h3
        simp at h3
        have hs := short_oths 4096 (ws ++ u)
        have hle := oths_le 4096 (ws ++ u)
        rw [h3, List.take_left' rfl, List.drop_left' rfl] at hs
        refine ⟨?_, by omega, hs.1, ?_⟩
        · cases ws with
          | nil =>
            exfalso
            cases u with
            | nil => simp at h1
            | cons y u =>
              have h3' : oths 4096 (y :: u) = 0 := by simpa using h3
              have ht' : three (y :: u) = false := by simpa using ht
              unfold oths at h3'
              rw [ht'] at h3'
              simp at h3'
          | cons x ws => simp
        · rcases hs.2 with h | h | h
          · exact .inl h
          · exact .inr (.inl h)
          · exact .inr (.inr h)
    · rintro ⟨h1, h2, h3, h4⟩
      have ho := oths_short h3 4096 h2 (by rcases h4 with h4 | h4; exact .inl h4.symm; exact .inr h4)
      have ht : three (ws ++ u) = false := by
        cases ws with
        | nil => simp at h1
        | cons x ws => exact h3.1
      refine ⟨?_, ?_, ?_⟩
      · cases ws with
        | nil => simp at h1
        | cons x ws => simp [Grp.told]
      · unfold first
        simp only [Grp.told, ht, ho]
        simp
      · unfold firstN
        simp only [Grp.told, ht, ho]
        simp
end Go.Proofs.Ytkbmgilceioieaa
