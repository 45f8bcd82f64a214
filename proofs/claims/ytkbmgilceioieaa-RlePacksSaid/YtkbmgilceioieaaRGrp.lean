/- Plain mathematics of groups: read off packed words, held against what Pack makes two by two; how long packed words are. No statement about the program. -/
import Derived.Test.YtkbmgilceioieaaRMath
namespace Go.Proofs.Ytkbmgilceioieaa

/-! ### A group's head tells it -/
def Wf (g : Grp) : Prop := match g with | .rep n _ => n ≤ 4096 | .oth ws => ws.length ≤ 4096
theorem cond_wf {g : Grp} {u : List Nat} (h : Cond g u) : Wf g := by
  cases g with
  | rep n x => exact h.2.1
  | oth ws => exact h.2.1
theorem good_wf {gs : List Grp} (h : Good gs) : ∀ g ∈ gs, Wf g := by
  induction gs with
  | nil => simp
  | cons g r ih =>
    intro x hx
    rcases List.mem_cons.1 hx with rfl | hx
    · exact cond_wf ((first_iff _ _).1 h.1)
    · exact ih h.2 x hx
theorem enc_ne (g : Grp) : g.enc ≠ [] := by cases g <;> simp [Grp.enc]
theorem encG_cons (g : Grp) (r : List Grp) : encG (g :: r) = g.enc ++ encG r := by simp [encG]
theorem toldG_cons (g : Grp) (r : List Grp) : toldG (g :: r) = g.told ++ toldG r := by simp [toldG]
theorem enc_inj {g h : Grp} {u v : List Nat} (hg : Wf g) (hh : Wf h) (e : g.enc ++ u = h.enc ++ v) : g = h ∧ u = v := by
  cases g with
  | rep n x =>
    cases h with
    | rep m y =>
      simp only [Grp.enc, List.cons_append, List.nil_append, List.cons.injEq] at e
      obtain ⟨e1, e2, e3⟩ := e
      have : n = m := by omega
      subst this e2
      exact ⟨rfl, e3⟩
    | oth ws =>
      simp only [Grp.enc, List.cons_append, List.nil_append, List.cons.injEq] at e
      have : ws.length ≤ 4096 := hh
      omega
  | oth ws =>
    cases h with
    | rep m y =>
      simp only [Grp.enc, List.cons_append, List.nil_append, List.cons.injEq] at e
      have : ws.length ≤ 4096 := hg
      omega
    | oth vs =>
      simp only [Grp.enc, List.cons_append, List.cons.injEq] at e
      obtain ⟨e1, e2⟩ := e
      have := List.append_inj e2 e1
      exact ⟨by rw [this.1], this.2⟩
theorem encG_inj {gs hs : List Grp} (hg : ∀ g ∈ gs, Wf g) (hh : ∀ g ∈ hs, Wf g) (e : encG gs = encG hs) : gs = hs := by
  induction gs generalizing hs with
  | nil =>
    cases hs with
    | nil => rfl
    | cons h r =>
      rw [encG_cons] at e
      have := enc_ne h
      cases hx : h.enc with
      | nil => exact absurd hx this
      | cons a b => rw [hx] at e; simp [encG] at e
  | cons g r ih =>
    cases hs with
    | nil =>
      rw [encG_cons] at e
      cases hx : g.enc with
      | nil => exact absurd hx (enc_ne g)
      | cons a b => rw [hx] at e; simp [encG] at e
    | cons h s =>
      rw [encG_cons, encG_cons] at e
      obtain ⟨rfl, e2⟩ := enc_inj (hg _ (List.mem_cons_self ..)) (hh _ (List.mem_cons_self ..)) e
      rw [ih (fun x hx => hg x (List.mem_cons_of_mem _ hx)) (fun x hx => hh x (List.mem_cons_of_mem _ hx)) e2]
theorem pack_good {gs : List Grp} (hw : ∀ g ∈ gs, Wf g) : packS (toldG gs) = encG gs ↔ Good gs := by
  constructor
  · intro h
    have hg := good_groups (toldG gs)
    have := encG_inj (good_wf hg) hw h
    rw [← this]; exact hg
  · intro h
    unfold packS
    rw [groups_good h]

/-! ### Two by two -/
theorem told_ne {g : Grp} {u : List Nat} (h : Cond g u) : g.told ≠ [] := by
  cases g with
  | rep n x => intro e; have := congrArg List.length e; simp [Grp.told] at this; have := h.1; omega
  | oth ws => intro e; have := h.1; simp [Grp.told] at e; rw [e] at this; simp at this
theorem cond_nil {g : Grp} {u : List Nat} (h : Cond g u) : Cond g [] := by
  cases g with
  | rep n x => exact ⟨h.1, h.2.1, .inr (by simp)⟩
  | oth ws => exact ⟨h.1, h.2.1, short_prefix (v := u) (by simpa using h.2.2.1), .inr (.inl rfl)⟩
theorem head_app {l u : List Nat} (h : l ≠ []) : (l ++ u).head? = l.head? := by cases l with | nil => exact absurd rfl h | cons x l => rfl
theorem three_rep {n x : Nat} (h : 3 ≤ n) (u : List Nat) : three (List.replicate n x ++ u) = true := by
  obtain ⟨k, rfl⟩ : ∃ k, n = k + 3 := ⟨n - 3, by omega⟩
  simp [List.replicate, three]
theorem cond_res {p g : Grp} {u : List Nat} (hp : Cond p (g.told ++ u)) (hg : Cond g u) : Cond p g.told := by
  have hne := told_ne hg
  cases p with
  | rep n x => exact ⟨hp.1, hp.2.1, by rw [← head_app (u := u) hne]; exact hp.2.2⟩
  | oth ws =>
    refine ⟨hp.1, hp.2.1, short_prefix hp.2.2.1, ?_⟩
    rcases hp.2.2.2 with h | h | h
    · exact .inl h
    · exact absurd (List.append_eq_nil_iff.1 h).1 hne
    · refine .inr (.inr ?_)
      cases g with
      | rep m y => have := three_rep (x := y) hg.1 []; simpa [Grp.told] using this
      | oth vs =>
        exfalso
        have h2 := hg.2.2.1
        simp only [Grp.told] at h
        cases vs with
        | nil => have := hg.1; simp at this
        | cons v vs => rw [h2.1] at h; cases h
theorem short_ext {ws t u : List Nat} (h : Short ws t) (ht : 2 ≤ t.length) : Short ws (t ++ u) := by
  induction ws with
  | nil => trivial
  | cons x ws ih =>
    refine ⟨?_, ih h.2⟩
    have h1 := h.1
    match ws, t, ht, h1 with
    | [], a :: b :: t, _, h1 => simpa [three] using h1
    | [y], a :: b :: t, _, h1 => simpa [three] using h1
    | y :: z :: ws, t, _, h1 => simpa [three] using h1
theorem short_one {ws u : List Nat} {v : Nat} (h : Short ws [v]) (hu : u.head? ≠ some v) : Short ws (v :: u) := by
  induction ws with
  | nil => trivial
  | cons x ws ih =>
    refine ⟨?_, ih h.2⟩
    have h1 := h.1
    match ws, h1 with
    | [], _ =>
      cases u with
      | nil => simp [three]
      | cons y u =>
        have hu' : ¬ y = v := by simpa using hu
        simp [three]
        intro e1 e2
        exact hu' (e2.trans e1.symm)
    | [y], h1 => simpa [three] using h1
    | y :: z :: ws, h1 => simpa [three] using h1
theorem cond_ext {p g : Grp} {u : List Nat} (hp : Cond p g.told) (hg : Cond g u) : Cond p (g.told ++ u) := by
  have hne := told_ne hg
  cases p with
  | rep n x => exact ⟨hp.1, hp.2.1, by rw [head_app hne]; exact hp.2.2⟩
  | oth ws =>
    refine ⟨hp.1, hp.2.1, ?_, ?_⟩
    · by_cases h2 : 2 ≤ g.told.length
      · exact short_ext hp.2.2.1 h2
      · cases g with
        | rep m y => exfalso; apply h2; simp [Grp.told]; have := hg.1; omega
        | oth vs =>
          simp only [Grp.told] at h2 hp ⊢
          have hv1 : vs.length = 1 := by have := hg.1; omega
          obtain ⟨v, rfl⟩ := List.length_eq_one_iff.1 hv1
          refine short_one hp.2.2.1 ?_
          rcases hg.2.2.2 with h | h | h
          · simp at h
          · rw [h]; simp
          · intro e
            have h3 := hg.2.2.1.1
            cases u with
            | nil => simp at e
            | cons y u =>
              simp at e
              subst e
              have := three_len h
              match u, h with
              | a :: b :: u, h =>
                simp [three] at h h3
                exact h3 h.1
              | [], h => simp [three] at h
              | [_], h => simp [three] at h
    · rcases hp.2.2.2 with h | h | h
      · exact .inl h
      · exact absurd h hne
      · exact .inr (.inr (three_prefix h))

/-- The code's checks: the first group alone, then each with the one ahead of it. -/
def Chk : Option Grp → List Grp → Prop
  | _, [] => True
  | none, g :: r => packS (toldG [g]) = encG [g] ∧ Chk (some g) r
  | some p, g :: r => packS (toldG [p, g]) = encG [p, g] ∧ Chk (some g) r
theorem good_one (g : Grp) : Good [g] ↔ Cond g [] := by
  show First g [] ∧ True ↔ _
  rw [first_iff]; simp
theorem good_two (p g : Grp) : Good [p, g] ↔ Cond p g.told ∧ Cond g [] := by
  show First p (toldG [g]) ∧ First g [] ∧ True ↔ _
  rw [first_iff, first_iff]
  simp [toldG]
theorem chk_some {p : Grp} {gs : List Grp} (hw : ∀ g ∈ p :: gs, Wf g) (hp : Cond p []) : Chk (some p) gs ↔ Good (p :: gs) := by
  induction gs generalizing p with
  | nil =>
    rw [good_one]
    exact ⟨fun _ => hp, fun _ => trivial⟩
  | cons g r ih =>
    have hw2 : ∀ x ∈ [p, g], Wf x := fun x hx => hw x (by
      rcases List.mem_cons.1 hx with rfl | hx
      · exact List.mem_cons_self ..
      · simp at hx; subst hx; simp)
    show packS (toldG [p, g]) = encG [p, g] ∧ Chk (some g) r ↔ _
    rw [pack_good hw2, good_two]
    constructor
    · rintro ⟨⟨h1, h2⟩, h3⟩
      have hg := (ih (fun x hx => hw x (List.mem_cons_of_mem _ hx)) h2).1 h3
      refine ⟨?_, hg⟩
      rw [toldG_cons, first_iff]
      exact cond_ext h1 ((first_iff _ _).1 hg.1)
    · rintro ⟨h1, h2⟩
      rw [toldG_cons, first_iff] at h1
      have hg := (first_iff _ _).1 h2.1
      exact ⟨⟨cond_res h1 hg, cond_nil hg⟩, (ih (fun x hx => hw x (List.mem_cons_of_mem _ hx)) (cond_nil hg)).2 h2⟩
theorem chk_none {gs : List Grp} (hw : ∀ g ∈ gs, Wf g) : Chk none gs ↔ Good gs := by
  cases gs with
  | nil => exact Iff.rfl
  | cons g r =>
    show packS (toldG [g]) = encG [g] ∧ Chk (some g) r ↔ _
    rw [pack_good (fun x hx => hw x (by simp at hx; subst hx; exact List.mem_cons_self ..)), good_one]
    constructor
    · rintro ⟨h1, h2⟩
      exact (chk_some hw h1).1 h2
    · intro h
      have hc := cond_nil ((first_iff _ _).1 h.1)
      exact ⟨hc, (chk_some hw hc).2 h⟩

/-! ### Groups read off packed words -/
/-- The first group of packed words, and the rest; none, if it is none. -/
def parse1 : List Nat → Option (Grp × List Nat)
  | [] => none
  | h :: t =>
    if 2147483648 ≤ h then
      match t with
      | [] => none
      | x :: t => if h - 2147483648 ≤ 4096 then some (.rep (h - 2147483648) x, t) else none
    else if h ≤ 4096 ∧ h ≤ t.length then some (.oth (t.take h), t.drop h) else none
def parseR (h : Nat) : List Nat → Option (Grp × List Nat)
  | [] => none
  | x :: t => if h - 2147483648 ≤ 4096 then some (.rep (h - 2147483648) x, t) else none
theorem parseR_cons (h x : Nat) (t : List Nat) : parseR h (x :: t) = if h - 2147483648 ≤ 4096 then some (.rep (h - 2147483648) x, t) else none := rfl
theorem parse1_cons (h : Nat) (t : List Nat) : parse1 (h :: t) = if 2147483648 ≤ h then parseR h t else if h ≤ 4096 ∧ h ≤ t.length then some (.oth (t.take h), t.drop h) else none := by
  cases t <;> rfl
theorem parse1_enc {l : List Nat} {g : Grp} {r : List Nat} (h : parse1 l = some (g, r)) : l = g.enc ++ r ∧ Wf g := by
  cases l with
  | nil => simp [parse1] at h
  | cons x t =>
    rw [parse1_cons] at h
    split at h
    · rename_i hx
      cases t with
      | nil => simp [parseR] at h
      | cons y t =>
        rw [parseR_cons] at h
        split at h
        · rename_i hn
          injection h with h; injection h with h1 h2
          subst h1 h2
          exact ⟨by simp [Grp.enc]; omega, hn⟩
        · cases h
    · split at h
      · rename_i hn
        injection h with h; injection h with h1 h2
        subst h1 h2
        have e : (t.take x).length = x := by rw [List.length_take]; omega
        exact ⟨by simp [Grp.enc]; omega, by show (t.take x).length ≤ 4096; omega⟩
      · cases h
theorem enc_parse1 {g : Grp} (hw : Wf g) (r : List Nat) : parse1 (g.enc ++ r) = some (g, r) := by
  cases g with
  | rep n x =>
    have : n ≤ 4096 := hw
    show parse1 ((2147483648 + n) :: x :: r) = _
    rw [parse1_cons, if_pos (by omega)]
    rw [parseR_cons, if_pos (by omega), show 2147483648 + n - 2147483648 = n by omega]
  | oth ws =>
    have hl : ws.length ≤ 4096 := hw
    have h1 : ¬ 2147483648 ≤ ws.length := by omega
    show parse1 (ws.length :: (ws ++ r)) = _
    rw [parse1_cons, if_neg h1, if_pos ⟨hl, by simp⟩]
    simp
def parseF : Nat → List Nat → List Grp × List Nat
  | 0, l => ([], l)
  | f + 1, l => match parse1 l with
    | none => ([], l)
    | some (g, r) => (g :: (parseF f r).1, (parseF f r).2)
def parse (l : List Nat) : List Grp × List Nat := parseF l.length l
theorem parse1_len {l : List Nat} {g : Grp} {r : List Nat} (h : parse1 l = some (g, r)) : r.length < l.length := by
  have := (parse1_enc h).1
  rw [this, List.length_append]
  have := enc_ne g
  cases hx : g.enc with
  | nil => exact absurd hx this
  | cons a b => simp
theorem parseF_fuel (f g : Nat) (l : List Nat) (hf : l.length ≤ f) (hg : l.length ≤ g) : parseF f l = parseF g l := by
  induction f generalizing g l with
  | zero =>
    obtain rfl : l = [] := List.length_eq_zero_iff.1 (by omega)
    cases g <;> rfl
  | succ f ih =>
    cases g with
    | zero =>
      obtain rfl : l = [] := List.length_eq_zero_iff.1 (by omega)
      rfl
    | succ g =>
      unfold parseF
      cases h : parse1 l with
      | none => rfl
      | some x =>
        obtain ⟨a, r⟩ := x
        have := parse1_len h
        simp only
        rw [ih g r (by omega) (by omega)]
theorem parse_none {l : List Nat} (h : parse1 l = none) : parse l = ([], l) := by
  unfold parse
  cases hl : l.length with
  | zero => rfl
  | succ n => unfold parseF; rw [h]
theorem parse_some {l : List Nat} {g : Grp} {r : List Nat} (h : parse1 l = some (g, r)) : parse l = (g :: (parse r).1, (parse r).2) := by
  have hl := parse1_len h
  unfold parse
  obtain ⟨n, hn⟩ : ∃ n, l.length = n + 1 := ⟨l.length - 1, by omega⟩
  rw [hn]
  show (match parse1 l with | none => ([], l) | some (g, r) => (g :: (parseF n r).1, (parseF n r).2)) = _
  rw [h]
  simp only
  rw [parseF_fuel n r.length r (by omega) (Nat.le_refl _)]
theorem parse_enc (l : List Nat) : encG (parse l).1 ++ (parse l).2 = l ∧ ∀ g ∈ (parse l).1, Wf g := by
  induction h : l.length using Nat.strongRecOn generalizing l with
  | _ n ih =>
    cases hp : parse1 l with
    | none => rw [parse_none hp]; simp [encG]
    | some x =>
      obtain ⟨g, r⟩ := x
      rw [parse_some hp]
      have hl := parse1_len hp
      have he := parse1_enc hp
      have := ih r.length (by omega) r rfl
      refine ⟨?_, ?_⟩
      · simp only
        rw [encG_cons, List.append_assoc, this.1]
        exact he.1.symm
      · intro x hx
        rcases List.mem_cons.1 hx with rfl | hx
        · exact he.2
        · exact this.2 x hx
theorem parse_of_enc {gs : List Grp} (hw : ∀ g ∈ gs, Wf g) : parse (encG gs) = (gs, []) := by
  induction gs with
  | nil => rfl
  | cons g r ih =>
    rw [encG_cons, parse_some (enc_parse1 (hw g (List.mem_cons_self ..)) _), ih fun x hx => hw x (List.mem_cons_of_mem _ hx)]

/-- These are just the groups that Pack makes of the words, and those are at most so many. -/
def RightL (most : Nat) (l out : List Nat) : Prop := packS out = l ∧ out.length ≤ most
theorem pack_parse (out : List Nat) : parse (packS out) = (groups out, []) := parse_of_enc (good_wf (good_groups out))
theorem right_iff (most : Nat) (l : List Nat) : ((parse l).2 = [] ∧ (toldG (parse l).1).length ≤ most ∧ Chk none (parse l).1) ↔ RightL most l (toldG (parse l).1) := by
  have hp := parse_enc l
  constructor
  · rintro ⟨h1, h2, h3⟩
    rw [h1, List.append_nil] at hp
    refine ⟨?_, h2⟩
    rw [(pack_good hp.2).2 ((chk_none hp.2).1 h3), hp.1]
  · rintro ⟨h1, h2⟩
    have hq := pack_parse (toldG (parse l).1)
    rw [h1] at hq
    have e1 := congrArg Prod.fst hq
    have e2 := congrArg Prod.snd hq
    simp only at e1 e2
    refine ⟨e2, h2, (chk_none hp.2).2 ?_⟩
    rw [e1]; exact good_groups _
theorem right_uniq {most : Nat} {l out : List Nat} (h : RightL most l out) : toldG (parse l).1 = out := by
  rw [← h.1, pack_parse]
  exact groups_told out
end Go.Proofs.Ytkbmgilceioieaa
