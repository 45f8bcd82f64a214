/- Plain mathematics of the reference's reading of packed words, of three words in a row, and of the reference's packing. No statement about the program. -/
import Derived.Test.YtkbmgilceioieaaRY
namespace Go.Proofs.Ytkbmgilceioieaa

/-! ### Reading groups as they stand -/
def openR (n : Nat) (k : List Nat → Option (List Nat)) : List Nat → Option (List Nat)
  | [] => none
  | x :: t => (k t).map (List.replicate n x ++ ·)
def openF : Nat → Nat → List Nat → Option (List Nat)
  | _, _, [] => some []
  | 0, _, _ :: _ => none
  | f + 1, m, h :: t =>
    if m < h % 2147483648 then none
    else if 2147483648 ≤ h then openR (h % 2147483648) (openF f (m - h % 2147483648)) t
    else if t.length < h % 2147483648 then none
    else (openF f (m - h % 2147483648) (t.drop (h % 2147483648))).map (t.take (h % 2147483648) ++ ·)
def openS (m : Nat) (l : List Nat) : Option (List Nat) := openF l.length m l
theorem openF_fuel (f g m : Nat) (l : List Nat) (hf : l.length ≤ f) (hg : l.length ≤ g) : openF f m l = openF g m l := by
  induction f generalizing g m l with
  | zero =>
    obtain rfl : l = [] := List.length_eq_zero_iff.1 (by omega)
    cases g <;> rfl
  | succ f ih =>
    cases l with
    | nil => cases g <;> rfl
    | cons h t =>
      cases g with
      | zero => simp at hg
      | succ g =>
        simp at hf hg
        unfold openF
        have e : ∀ u : List Nat, u.length ≤ t.length → openF f (m - h % 2147483648) u = openF g (m - h % 2147483648) u := fun u hu => ih g _ u (by omega) (by omega)
        split
        · rfl
        · split
          · cases t with
            | nil => rfl
            | cons x t => show Option.map _ _ = Option.map _ _; rw [e t (by simp)]
          · split
            · rfl
            · rw [e _ (by simp)]
theorem openS_nil (m : Nat) : openS m [] = some [] := rfl
theorem openS_big {m h : Nat} {t : List Nat} (h1 : m < h % 2147483648) : openS m (h :: t) = none := by
  show openF (t.length + 1) m (h :: t) = none
  unfold openF; rw [if_pos h1]
theorem openS_rep {m h x : Nat} {t : List Nat} (h1 : ¬ m < h % 2147483648) (h2 : 2147483648 ≤ h) : openS m (h :: x :: t) = (openS (m - h % 2147483648) t).map (List.replicate (h % 2147483648) x ++ ·) := by
  show openF ((x :: t).length + 1) m (h :: x :: t) = _
  unfold openF
  rw [if_neg h1, if_pos h2]
  show Option.map _ _ = _
  rw [openF_fuel _ t.length _ _ (by simp) (Nat.le_refl _)]; rfl
theorem openS_rep0 {m h : Nat} (h2 : 2147483648 ≤ h) : openS m [h] = none := by
  show openF (0 + 1) m [h] = none
  unfold openF
  by_cases h1 : m < h % 2147483648
  · rw [if_pos h1]
  · rw [if_neg h1, if_pos h2]; rfl
theorem openS_oth {m h : Nat} {t : List Nat} (h1 : ¬ m < h % 2147483648) (h2 : ¬ 2147483648 ≤ h) (h3 : ¬ t.length < h % 2147483648) : openS m (h :: t) = (openS (m - h % 2147483648) (t.drop (h % 2147483648))).map (t.take (h % 2147483648) ++ ·) := by
  show openF (t.length + 1) m (h :: t) = _
  unfold openF
  rw [if_neg h1, if_neg h2, if_neg h3, openF_fuel _ (t.drop (h % 2147483648)).length _ _ (by simp) (Nat.le_refl _)]; rfl
theorem openS_short {m h : Nat} {t : List Nat} (h2 : ¬ 2147483648 ≤ h) (h3 : t.length < h % 2147483648) : openS m (h :: t) = none := by
  show openF (t.length + 1) m (h :: t) = none
  unfold openF
  by_cases h1 : m < h % 2147483648
  · rw [if_pos h1]
  · rw [if_neg h1, if_neg h2, if_pos h3]
/-- What is read is no more than may be. -/
theorem openF_len (f m : Nat) (l out : List Nat) (h : openF f m l = some out) : out.length ≤ m := by
  induction f generalizing m l out with
  | zero => cases l with
    | nil => injection h with h; subst h; simp
    | cons x t => cases h
  | succ f ih =>
    cases l with
    | nil => injection h with h; subst h; simp
    | cons x t =>
      unfold openF at h
      split at h
      · cases h
      · split at h
        · cases t with
          | nil => cases h
          | cons y t =>
            obtain ⟨u, hu, rfl⟩ := Option.map_eq_some_iff.1 h
            have := ih _ _ _ hu
            simp; omega
        · split at h
          · cases h
          · obtain ⟨u, hu, rfl⟩ := Option.map_eq_some_iff.1 h
            have := ih _ _ _ hu
            simp; omega
theorem openS_enc (gs : List Grp) (hw : ∀ g ∈ gs, Wf g) (m : Nat) (hm : (toldG gs).length ≤ m) : openS m (encG gs) = some (toldG gs) := by
  induction gs generalizing m with
  | nil => rfl
  | cons g r ih =>
    rw [toldG_cons, List.length_append] at hm
    have hg := hw g (List.mem_cons_self ..)
    have hr := fun x hx => hw x (List.mem_cons_of_mem g hx)
    rw [encG_cons, toldG_cons]
    cases g with
    | rep n x =>
      have hn : n ≤ 4096 := hg
      simp only [Grp.told, List.length_replicate] at hm
      have e : (2147483648 + n) % 2147483648 = n := by omega
      show openS m ((2147483648 + n) :: x :: encG r) = _
      rw [openS_rep (by omega) (by omega), e, ih hr (m - n) (by omega)]
      rfl
    | oth ws =>
      have hn : ws.length ≤ 4096 := hg
      simp only [Grp.told] at hm
      have e : ws.length % 2147483648 = ws.length := by omega
      show openS m (ws.length :: (ws ++ encG r)) = _
      rw [openS_oth (by omega) (by omega) (by simp; omega), e, List.drop_left, List.take_left, ih hr (m - ws.length) (by omega)]
      rfl
theorem open_right {m : Nat} {l : List Nat} (h : rightB m l = true) : openS m l = some (unpackS m l) ∧ packS (unpackS m l) = l := by
  have h1 := pack_unpack m l h
  have h2 := unpackS_len m l
  refine ⟨?_, h1⟩
  conv => lhs; rw [← h1]
  have h3 := openS_enc (groups (unpackS m l)) (good_wf (good_groups _)) m (by rw [groups_told]; exact h2)
  rw [groups_told] at h3
  exact h3
theorem open_back {m : Nat} {l out : List Nat} (h : openS m l = some out) (hp : packS out = l) : rightB m l = true ∧ unpackS m l = out := by
  have hl : out.length ≤ m := openF_len _ _ _ _ h
  have hR : RightL m l out := ⟨hp, hl⟩
  have hu := right_uniq hR
  have hb : rightB m l = true := rightB_true.2 (by rw [hu]; exact hR)
  refine ⟨hb, ?_⟩
  unfold unpackS
  rw [if_pos hb, hu]
theorem open_wrong {m : Nat} {l : List Nat} (h : ∀ out, openS m l = some out → packS out ≠ l) : rightB m l = false ∧ unpackS m l = [] := by
  have hb : rightB m l = false := by
    rw [Bool.eq_false_iff]
    intro hr
    have h1 := open_right hr
    exact h _ h1.1 h1.2
  exact ⟨hb, by unfold unpackS; rw [hb]; rfl⟩

/-! ### Three in a row -/
theorem three_at (l : List Nat) (i : Nat) : three (l.drop i) = (decide (i + 2 < l.length) && (decide (nthW l (i + 1) = nthW l i) && decide (nthW l (i + 2) = nthW l i))) := by
  by_cases h2 : i + 2 < l.length
  · rw [drop_head (show i < l.length by omega), drop_head (show i + 1 < l.length by omega), drop_head (show i + 2 < l.length by omega)]
    simp [three, h2]
  · have e : decide (i + 2 < l.length) = false := by simpa using h2
    rw [e, Bool.false_and]
    have hl : (l.drop i).length ≤ 2 := by rw [List.length_drop]; omega
    match hd : l.drop i with
    | [] => rfl
    | [a] => rfl
    | [a, b] => rfl
    | a :: b :: c :: u => rw [hd] at hl; simp at hl
theorem oths_at (m : Nat) (l : List Nat) (k : Nat) (h : k < oths m l) : three (l.drop k) = false := by
  have hs := (short_oths m l).1
  have gen : ∀ (ws u : List Nat) (k : Nat), Short ws u → k < ws.length → three ((ws ++ u).drop k) = false := by
    intro ws
    induction ws with
    | nil => intro u k _ hk; simp at hk
    | cons x ws ih =>
      intro u k hs hk
      cases k with
      | zero => exact hs.1
      | succ k => exact ih u k hs.2 (by simpa using hk)
  have h1 := gen _ _ k hs (by rw [List.length_take]; have := oths_le m l; omega)
  rwa [List.take_append_drop] at h1
theorem oths_stop (m : Nat) (l : List Nat) : oths m l = m ∨ oths m l = l.length ∨ (oths m l < l.length ∧ three (l.drop (oths m l)) = true) := by
  rcases (short_oths m l).2 with h | h | h
  · exact .inl h
  · have h2 := oths_le m l
    have h1 := congrArg List.length h
    rw [List.length_drop] at h1; simp at h1
    exact .inr (.inl (by omega))
  · refine .inr (.inr ⟨?_, h⟩)
    have := three_len h
    rw [List.length_drop] at this
    omega
/-- The reference's packing, group by group. -/
theorem pack_step {l : List Nat} {a : Nat} (h : a < l.length) :
    (three (l.drop a) = true ∧ packS (l.drop a) = [2147483648 + often (l.drop a), nthW l a] ++ packS (l.drop (a + often (l.drop a)))) ∨
    (three (l.drop a) = false ∧ packS (l.drop a) = [oths 4096 (l.drop a)] ++ (l.drop a).take (oths 4096 (l.drop a)) ++ packS (l.drop (a + oths 4096 (l.drop a)))) := by
  have hne : l.drop a ≠ [] := by intro e; have := congrArg List.length e; simp at this; omega
  have hp := pack_ne hne
  cases ht : three (l.drop a) with
  | true =>
    refine .inl ⟨rfl, ?_⟩
    rw [hp]
    unfold first firstN
    rw [ht]
    simp only [if_true, Grp.enc, List.drop_drop]
    rw [nthW_head]
  | false =>
    refine .inr ⟨rfl, ?_⟩
    rw [hp]
    unfold first firstN
    rw [ht]
    have h1 := oths_le 4096 (l.drop a)
    have h2 : ((l.drop a).take (oths 4096 (l.drop a))).length = oths 4096 (l.drop a) := by rw [List.length_take]; omega
    simp only [Grp.enc, List.drop_drop, Bool.false_eq_true, if_false, h2]
    simp
end Go.Proofs.Ytkbmgilceioieaa
