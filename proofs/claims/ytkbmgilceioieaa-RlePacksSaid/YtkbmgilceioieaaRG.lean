/- Plain mathematics of groups read off packed words one by one: where each lies, and where the reading ends. No statement about the program. -/
import Derived.Test.YtkbmgilceioieaaRGrp
namespace Go.Proofs.Ytkbmgilceioieaa

/-- Where group number k begins. -/
def posG (l : List Nat) (k : Nat) : Nat := (encG ((parse l).1.take k)).length
theorem parse_step {l : List Nat} {g : Grp} {gs : List Grp} {r : List Nat} (h : parse l = (g :: gs, r)) : parse1 l = some (g, l.drop g.enc.length) ∧ parse (l.drop g.enc.length) = (gs, r) := by
  cases hp : parse1 l with
  | none => rw [parse_none hp] at h; cases h
  | some x =>
    obtain ⟨g', r'⟩ := x
    rw [parse_some hp] at h
    simp only [Prod.mk.injEq, List.cons.injEq] at h
    obtain ⟨⟨rfl, h1⟩, h2⟩ := h
    have he := (parse1_enc hp).1
    have hr : l.drop g'.enc.length = r' := by rw [he, List.drop_left]
    rw [hr]
    exact ⟨rfl, by rw [← h1, ← h2]⟩
theorem posG_zero (l : List Nat) : posG l 0 = 0 := by simp [posG, encG]
theorem posG_succ (l : List Nat) (k : Nat) (g : Grp) (h : (parse l).1[k]? = some g) : posG l (k + 1) = posG l k + g.enc.length := by
  unfold posG
  obtain ⟨hk, hg⟩ := List.getElem?_eq_some_iff.1 h
  rw [List.take_succ_eq_append_getElem hk, hg]
  simp [encG]
theorem parse_at (l : List Nat) (k : Nat) (hk : k ≤ (parse l).1.length) : parse (l.drop (posG l k)) = ((parse l).1.drop k, (parse l).2) := by
  induction k with
  | zero => rw [posG_zero]; simp
  | succ k ih =>
    have h := ih (by omega)
    rw [List.drop_eq_getElem_cons (show k < (parse l).1.length by omega)] at h
    have hs := (parse_step h).2
    rw [List.drop_drop, ← posG_succ l k _ (List.getElem?_eq_getElem (show k < (parse l).1.length by omega))] at hs
    exact hs
/-- Group number k. -/
theorem grp_at (l : List Nat) (k : Nat) (g : Grp) (h : (parse l).1[k]? = some g) :
    parse1 (l.drop (posG l k)) = some (g, l.drop (posG l (k + 1))) ∧ posG l (k + 1) = posG l k + g.enc.length ∧ posG l k < l.length ∧ posG l (k + 1) ≤ l.length ∧ Wf g ∧ (l.drop (posG l k)).take g.enc.length = g.enc := by
  obtain ⟨hk, hg⟩ := List.getElem?_eq_some_iff.1 h
  have h1 := parse_at l k (by omega)
  rw [List.drop_eq_getElem_cons hk, hg] at h1
  have h2 := (parse_step h1).1
  rw [List.drop_drop, ← posG_succ l k g h] at h2
  have h3 := parse1_enc h2
  have h4 := posG_succ l k g h
  have h5 := congrArg List.length h3.1
  rw [List.length_append, List.length_drop, List.length_drop] at h5
  have h6 : 0 < g.enc.length := List.length_pos_iff.2 (enc_ne g)
  refine ⟨h2, h4, by omega, by omega, h3.2, ?_⟩
  rw [h3.1, List.take_left]
theorem parse1_stop {l : List Nat} {r : List Nat} (h : parse l = ([], r)) : parse1 l = none ∧ l = r := by
  cases hp : parse1 l with
  | none => rw [parse_none hp] at h; exact ⟨rfl, by simpa using h⟩
  | some x =>
    obtain ⟨g, r'⟩ := x
    rw [parse_some hp] at h
    cases h
/-- Where the reading ends. -/
theorem grp_end (l : List Nat) : parse1 (l.drop (posG l (parse l).1.length)) = none ∧ l.drop (posG l (parse l).1.length) = (parse l).2 := by
  have h := parse_at l (parse l).1.length (Nat.le_refl _)
  rw [List.drop_length] at h
  exact parse1_stop h

/-- What a head says: how many words its group tells, and how long it is. -/
def headN (h : Nat) : Nat := h % 2147483648
def headS (h : Nat) : Nat := if 2147483648 ≤ h then 2 else 1 + h % 2147483648
theorem head_some {h : Nat} {t : List Nat} {g : Grp} {r : List Nat} (hh : h < 4294967296) (hp : parse1 (h :: t) = some (g, r)) : g.told.length = headN h ∧ headN h ≤ 4096 ∧ g.enc.length = headS h ∧ headS h ≤ t.length + 1 := by
  rw [parse1_cons] at hp
  unfold headN headS
  split at hp
  · rename_i hx
    rw [if_pos hx]
    cases t with
    | nil => cases hp
    | cons y t =>
      rw [parseR_cons] at hp
      split at hp
      · injection hp with hp; injection hp with h1 h2
        subst h1
        simp [Grp.told, Grp.enc]
        omega
      · cases hp
  · rename_i hx
    rw [if_neg hx]
    split at hp
    · rename_i hn
      injection hp with hp; injection hp with h1 h2
      subst h1
      simp [Grp.told, Grp.enc]
      omega
    · cases hp
theorem head_none {h : Nat} {t : List Nat} (hh : h < 4294967296) (hp : parse1 (h :: t) = none) : 4096 < headN h ∨ t.length + 1 < headS h := by
  rw [parse1_cons] at hp
  unfold headN headS
  split at hp
  · rename_i hx
    rw [if_pos hx]
    cases t with
    | nil => right; simp
    | cons y t =>
      rw [parseR_cons] at hp
      split at hp
      · cases hp
      · left; omega
  · rename_i hx
    rw [if_neg hx]
    split at hp
    · cases hp
    · omega
/-- The words that the first k groups tell. -/
def toldK (l : List Nat) (k : Nat) : List Nat := toldG ((parse l).1.take k)
theorem toldK_zero (l : List Nat) : toldK l 0 = [] := by simp [toldK, toldG]
theorem toldK_succ (l : List Nat) (k : Nat) (g : Grp) (h : (parse l).1[k]? = some g) : toldK l (k + 1) = toldK l k ++ g.told := by
  unfold toldK
  obtain ⟨hk, hg⟩ := List.getElem?_eq_some_iff.1 h
  rw [List.take_succ_eq_append_getElem hk, hg]
  simp [toldG]
theorem toldK_all (l : List Nat) : toldK l (parse l).1.length = toldG (parse l).1 := by simp [toldK]
end Go.Proofs.Ytkbmgilceioieaa
