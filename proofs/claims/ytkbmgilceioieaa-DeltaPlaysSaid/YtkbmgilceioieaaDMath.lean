/- Plain mathematics of timers in a row: what a row of differences tells, with a timer more or less, and a tick later. No statement about the program. -/
namespace Go.Proofs.Ytkbmgilceioieaa

/-- A timer: its block, its number, in how many ticks it is due behind the one ahead. -/
structure Tm where
  b : Nat
  id : Int
  af : Int

def sumL (xs : List Tm) : Int := (xs.map (·.af)).sum

/-- What the row tells: numbers, and in how many ticks. -/
def tolds : Int → List Tm → List (Int × Int)
  | _, [] => []
  | c, t :: r => (t.id, c + t.af) :: tolds (c + t.af) r

@[simp] theorem sumL_nil : sumL [] = 0 := rfl
@[simp] theorem sumL_cons (t : Tm) (r : List Tm) : sumL (t :: r) = t.af + sumL r := by simp [sumL]
@[simp] theorem sumL_append (a b : List Tm) : sumL (a ++ b) = sumL a + sumL b := by simp [sumL]

theorem tolds_append (xs ys : List Tm) (c : Int) : tolds c (xs ++ ys) = tolds c xs ++ tolds (c + sumL xs) ys := by
  induction xs generalizing c with
  | nil => simp [tolds]
  | cons t r ih => simp [tolds, ih, Int.add_assoc]
theorem tolds_ids (L : List Tm) (c : Int) : (tolds c L).map (·.1) = L.map (·.id) := by
  induction L generalizing c with
  | nil => rfl
  | cons t r ih => simp [tolds, ih]
theorem tolds_len (L : List Tm) (c : Int) : (tolds c L).length = L.length := by
  have := congrArg List.length (tolds_ids L c); simpa using this

def cancelA (id : Int) (A : List (Int × Int)) : List (Int × Int) := A.filter fun p => decide (p.1 ≠ id)
def insA (id t : Int) (A : List (Int × Int)) : List (Int × Int) := A.takeWhile (fun p => decide (p.2 ≤ t)) ++ (id, t) :: A.dropWhile (fun p => decide (p.2 ≤ t))
def inA (id : Int) (A : List (Int × Int)) : Bool := A.any fun p => decide (p.1 = id)
def fitsA (id t : Int) (A : List (Int × Int)) : Bool := decide (1 ≤ t) && decide (t ≤ 65536) && (inA id A || decide (A.length < 64))
def addA (id t : Int) (A : List (Int × Int)) : List (Int × Int) := if fitsA id t A then insA id t (cancelA id A) else A
def dueA (A : List (Int × Int)) : List Int := (A.takeWhile fun p => decide (p.2 = 1)).map (·.1)
def tickA (A : List (Int × Int)) : List (Int × Int) := (A.dropWhile fun p => decide (p.2 = 1)).map fun p => (p.1, p.2 - 1)

/-- What holds of the timers told between any two calls. -/
structure OkA (A : List (Int × Int)) : Prop where
  sorted : A.Pairwise fun p q => p.2 ≤ q.2
  lo : ∀ p ∈ A, 1 ≤ p.2
  hi : ∀ p ∈ A, p.2 ≤ 65536
  nd : (A.map (·.1)).Nodup
  len : A.length ≤ 64

theorem okA_nil : OkA [] := ⟨.nil, by simp, by simp, by simp, by simp⟩

theorem inA_iff (id : Int) (A : List (Int × Int)) : inA id A = true ↔ id ∈ A.map (·.1) := by
  unfold inA; simp only [List.any_eq_true, decide_eq_true_eq, List.mem_map]

theorem cancelA_none {id : Int} {A : List (Int × Int)} (h : inA id A = false) : cancelA id A = A := by
  unfold cancelA
  rw [List.filter_eq_self]
  intro p hp
  simp only [decide_eq_true_eq]
  intro e
  have : inA id A = true := (inA_iff id A).2 (List.mem_map.2 ⟨p, hp, e⟩)
  rw [h] at this; cases this

theorem cancelA_len {id : Int} {A : List (Int × Int)} (h : inA id A = true) : (cancelA id A).length < A.length := by
  obtain ⟨p, hp, e⟩ := List.mem_map.1 ((inA_iff id A).1 h)
  unfold cancelA
  apply Nat.lt_of_le_of_ne (List.length_filter_le _ _)
  intro he
  have := List.filter_eq_self.1 (List.filter_sublist.eq_of_length he) p hp
  simp [e] at this

theorem okA_cancel {id : Int} {A : List (Int × Int)} (h : OkA A) : OkA (cancelA id A) := by
  have hs : (cancelA id A).Sublist A := List.filter_sublist
  exact ⟨h.sorted.sublist hs, fun p hp => h.lo p (hs.subset hp), fun p hp => h.hi p (hs.subset hp), h.nd.sublist (hs.map _), Nat.le_trans hs.length_le h.len⟩

theorem not_in_cancel (id : Int) (A : List (Int × Int)) : id ∉ (cancelA id A).map (·.1) := by
  intro h
  obtain ⟨p, hp, e⟩ := List.mem_map.1 h
  have := (List.mem_filter.1 hp).2
  simp [e] at this

theorem drop_gt {t : Int} : ∀ {A : List (Int × Int)}, A.Pairwise (fun p q => p.2 ≤ q.2) → ∀ p ∈ A.dropWhile (fun p => decide (p.2 ≤ t)), t < p.2
  | [], _, p, hp => by simp at hp
  | a :: A, h, p, hp => by
    rw [List.dropWhile_cons] at hp
    split at hp
    · exact drop_gt (List.pairwise_cons.1 h).2 p hp
    · rename_i hn
      simp at hn
      rcases List.mem_cons.1 hp with rfl | hp
      · exact hn
      · have := (List.pairwise_cons.1 h).1 p hp; omega

theorem take_le {t : Int} : ∀ {A : List (Int × Int)}, ∀ p ∈ A.takeWhile (fun p => decide (p.2 ≤ t)), p.2 ≤ t
  | [], p, hp => by simp at hp
  | a :: A, p, hp => by
    rw [List.takeWhile_cons] at hp
    split at hp
    · rename_i hn
      simp at hn
      rcases List.mem_cons.1 hp with rfl | hp
      · exact hn
      · exact take_le p hp
    · simp at hp

theorem mem_insA {id t : Int} {A : List (Int × Int)} {p : Int × Int} : p ∈ insA id t A ↔ p = (id, t) ∨ p ∈ A := by
  unfold insA
  rw [List.mem_append, List.mem_cons]
  constructor
  · rintro (h | h | h)
    · exact .inr ((List.takeWhile_sublist _).subset h)
    · exact .inl h
    · exact .inr ((List.dropWhile_sublist _).subset h)
  · rintro (h | h)
    · exact .inr (.inl h)
    · rw [← List.takeWhile_append_dropWhile (p := fun p : Int × Int => decide (p.2 ≤ t)) (l := A)] at h
      rcases List.mem_append.1 h with h | h
      · exact .inl h
      · exact .inr (.inr h)
theorem len_insA (id t : Int) (A : List (Int × Int)) : (insA id t A).length = A.length + 1 := by
  have := congrArg List.length (List.takeWhile_append_dropWhile (p := fun p : Int × Int => decide (p.2 ≤ t)) (l := A))
  unfold insA
  simp only [List.length_append, List.length_cons] at this ⊢
  omega

theorem okA_ins {id t : Int} {A : List (Int × Int)} (h : OkA A) (h1 : 1 ≤ t) (h2 : t ≤ 65536) (hn : id ∉ A.map (·.1)) (hl : A.length < 64) : OkA (insA id t A) := by
  have split := List.takeWhile_append_dropWhile (p := fun p : Int × Int => decide (p.2 ≤ t)) (l := A)
  refine ⟨?_, ?_, ?_, ?_, by rw [len_insA]; omega⟩
  · have hs := h.sorted
    rw [← split, List.pairwise_append] at hs
    unfold insA
    rw [List.pairwise_append, List.pairwise_cons]
    refine ⟨hs.1, ⟨fun p hp => by have := drop_gt h.sorted p hp; simp; omega, hs.2.1⟩, fun p hp q hq => ?_⟩
    rcases List.mem_cons.1 hq with rfl | hq
    · exact take_le p hp
    · exact hs.2.2 p hp q hq
  · intro p hp
    rcases mem_insA.1 hp with rfl | hp
    · exact h1
    · exact h.lo p hp
  · intro p hp
    rcases mem_insA.1 hp with rfl | hp
    · exact h2
    · exact h.hi p hp
  · have hnd := h.nd
    rw [← split, List.map_append, List.nodup_append] at hnd
    have hn' : id ∉ (A.takeWhile fun p => decide (p.2 ≤ t)).map (·.1) ∧ id ∉ (A.dropWhile fun p => decide (p.2 ≤ t)).map (·.1) := by
      rw [← split, List.map_append, List.mem_append] at hn
      exact ⟨fun h => hn (.inl h), fun h => hn (.inr h)⟩
    unfold insA
    rw [List.map_append, List.map_cons, List.nodup_append, List.nodup_cons]
    refine ⟨hnd.1, ⟨hn'.2, hnd.2.1⟩, fun a ha b hb => ?_⟩
    rcases List.mem_cons.1 hb with rfl | hb
    · exact fun e => hn'.1 (e ▸ ha)
    · exact hnd.2.2 a ha b hb

theorem okA_add {id t : Int} {A : List (Int × Int)} (h : OkA A) : OkA (addA id t A) := by
  unfold addA
  cases hf : fitsA id t A with
  | false => simpa using h
  | true =>
    simp only [if_true]
    unfold fitsA at hf
    simp only [Bool.and_eq_true, Bool.or_eq_true, decide_eq_true_eq] at hf
    refine okA_ins (okA_cancel h) hf.1.1 hf.1.2 (not_in_cancel id A) ?_
    rcases hf.2 with hi | hi
    · exact Nat.lt_of_lt_of_le (cancelA_len hi) h.len
    · exact Nat.lt_of_le_of_lt (List.length_filter_le _ _) hi

theorem drop_one {A : List (Int × Int)} (h : OkA A) : ∀ p ∈ A.dropWhile (fun p => decide (p.2 = 1)), 2 ≤ p.2 := by
  have hs := h.sorted
  have hlo := h.lo
  clear h
  induction A with
  | nil => simp
  | cons a A ih =>
    intro p hp
    rw [List.dropWhile_cons] at hp
    split at hp
    · exact ih (List.pairwise_cons.1 hs).2 (fun p hp => hlo p (List.mem_cons_of_mem _ hp)) p hp
    · rename_i hn
      simp at hn
      have h1 := hlo a (List.mem_cons_self ..)
      rcases List.mem_cons.1 hp with rfl | hp
      · omega
      · have := (List.pairwise_cons.1 hs).1 p hp; omega

theorem okA_tick {A : List (Int × Int)} (h : OkA A) : OkA (tickA A) := by
  have hs : (A.dropWhile fun p => decide (p.2 = 1)).Sublist A := List.dropWhile_sublist _
  have hd := drop_one h
  unfold tickA
  refine ⟨?_, ?_, ?_, ?_, by rw [List.length_map]; exact Nat.le_trans hs.length_le h.len⟩
  · rw [List.pairwise_map]
    exact (h.sorted.sublist hs).imp fun {p q} h => by simp; omega
  · intro p hp
    obtain ⟨q, hq, rfl⟩ := List.mem_map.1 hp
    have := hd q hq; simp; omega
  · intro p hp
    obtain ⟨q, hq, rfl⟩ := List.mem_map.1 hp
    have := h.hi q (hs.subset hq); simp; omega
  · rw [List.map_map]
    have : (A.dropWhile fun p => decide (p.2 = 1)).map ((·.1) ∘ fun p : Int × Int => (p.1, p.2 - 1)) = (A.dropWhile fun p => decide (p.2 = 1)).map (·.1) := by
      apply List.map_congr_left; intro p _; rfl
    rw [this]
    exact h.nd.sublist (hs.map _)

/-! ### The row of differences -/

theorem told_mid (xs : List Tm) (t : Tm) (ys : List Tm) : tolds 0 (xs ++ t :: ys) = tolds 0 xs ++ (t.id, sumL xs + t.af) :: tolds (sumL xs + t.af) ys := by
  rw [tolds_append]; simp [tolds]

/-- Bounds on the differences, out of what is told. -/
theorem mid_bounds {xs : List Tm} {t : Tm} {ys : List Tm} (h : OkA (tolds 0 (xs ++ t :: ys))) : 0 ≤ t.af ∧ 0 ≤ sumL xs ∧ sumL xs + t.af ≤ 65536 ∧ 1 ≤ sumL xs + t.af ∧ sumL xs ≤ 65536 := by
  have hs := h.sorted
  have hlo := h.lo
  have hhi := h.hi
  rw [told_mid] at hs hlo hhi
  have h1 := hlo _ (List.mem_append_right _ (List.mem_cons_self ..))
  have h2 := hhi _ (List.mem_append_right _ (List.mem_cons_self ..))
  simp only at h1 h2
  rcases List.eq_nil_or_concat xs with rfl | ⟨zs, u, rfl⟩
  · simp at h1 h2 ⊢; omega
  · rw [List.concat_eq_append] at *
    rw [tolds_append] at hs hlo
    have hu : (u.id, sumL zs + u.af) ∈ tolds 0 zs ++ tolds (0 + sumL zs) [u] := by simp [tolds]
    have h3 := (List.pairwise_append.1 hs).2.2 _ hu _ (List.mem_cons_self ..)
    have h4 := hlo _ (List.mem_append_left _ hu)
    simp at h3 h4 h1 h2 ⊢
    omega

/-- Bounds on the sum of a stretch from the beginning. -/
theorem sum_bounds {xs ys : List Tm} (h : OkA (tolds 0 (xs ++ ys))) : 0 ≤ sumL xs ∧ sumL xs ≤ 65536 := by
  rcases List.eq_nil_or_concat xs with rfl | ⟨zs, u, rfl⟩
  · simp
  · rw [List.concat_eq_append, List.append_assoc] at h
    have := mid_bounds (xs := zs) (t := u) (ys := ys) (by simpa using h)
    simp; omega

theorem told_cancel_last {xs : List Tm} {t : Tm} (h : OkA (tolds 0 (xs ++ [t]))) : tolds 0 xs = cancelA t.id (tolds 0 (xs ++ [t])) := by
  have hnd := h.nd
  rw [tolds_ids, List.map_append, List.nodup_append] at hnd
  rw [told_mid]
  unfold cancelA
  rw [List.filter_append, List.filter_cons]
  simp [tolds]
  rw [eq_comm, List.filter_eq_self]
  intro p hp
  have : p.1 ∈ (tolds 0 xs).map (·.1) := List.mem_map.2 ⟨p, hp, rfl⟩
  rw [tolds_ids] at this
  simpa using hnd.2.2 _ this _ (by simp)

theorem told_cancel {xs : List Tm} {t u : Tm} {zs : List Tm} (h : OkA (tolds 0 (xs ++ t :: u :: zs))) :
    tolds 0 (xs ++ { u with af := u.af + t.af } :: zs) = cancelA t.id (tolds 0 (xs ++ t :: u :: zs)) := by
  have hnd := h.nd
  rw [tolds_ids, List.map_append, List.nodup_append] at hnd
  have hx : ∀ p ∈ tolds 0 xs, p.1 ≠ t.id := fun p hp => by
    have : p.1 ∈ (tolds 0 xs).map (·.1) := List.mem_map.2 ⟨p, hp, rfl⟩
    rw [tolds_ids] at this
    exact hnd.2.2 _ this _ (by simp)
  have hnt := hnd.2.1
  rw [List.map_cons, List.nodup_cons] at hnt
  have hy : ∀ p ∈ tolds (sumL xs + t.af) (u :: zs), p.1 ≠ t.id := fun p hp e => by
    have : p.1 ∈ (tolds (sumL xs + t.af) (u :: zs)).map (·.1) := List.mem_map.2 ⟨p, hp, rfl⟩
    rw [tolds_ids, e] at this
    exact hnt.1 this
  rw [told_mid, told_mid]
  unfold cancelA
  rw [List.filter_append, List.filter_cons]
  simp only [ne_eq, not_true_eq_false, decide_false, Bool.false_eq_true, if_false]
  rw [List.filter_eq_self.2 (fun p hp => by simpa using hx p hp), List.filter_eq_self.2 (fun p hp => by simpa using hy p hp)]
  simp only [tolds]
  have e : sumL xs + (u.af + t.af) = sumL xs + t.af + u.af := by omega
  rw [e]

theorem take_of {A B : List (Int × Int)} {t : Int} (hA : ∀ p ∈ A, p.2 ≤ t) (hB : ∀ p, B.head? = some p → t < p.2) :
    (A ++ B).takeWhile (fun p => decide (p.2 ≤ t)) = A ∧ (A ++ B).dropWhile (fun p => decide (p.2 ≤ t)) = B := by
  induction A with
  | nil =>
    cases B with
    | nil => exact ⟨rfl, rfl⟩
    | cons b B =>
      have := hB b rfl
      have hn : ¬ b.2 ≤ t := by omega
      simp [hn]
  | cons a A ih =>
    have h1 := hA a (List.mem_cons_self ..)
    have := ih (fun p hp => hA p (List.mem_cons_of_mem _ hp))
    simp [h1, this]

theorem told_ins_last {xs : List Tm} {id t : Int} {n : Nat} (hle : ∀ p ∈ tolds 0 xs, p.2 ≤ t) :
    tolds 0 (xs ++ [⟨n, id, t - sumL xs⟩]) = insA id t (tolds 0 xs) := by
  have h := take_of (A := tolds 0 xs) (B := []) hle (by simp)
  rw [List.append_nil] at h
  unfold insA
  rw [h.1, h.2, told_mid]
  simp [tolds]; omega

theorem told_ins {xs : List Tm} {u : Tm} {zs : List Tm} {id t : Int} {n : Nat} (hle : ∀ p ∈ tolds 0 xs, p.2 ≤ t) (hgt : t - sumL xs < u.af) :
    tolds 0 (xs ++ ⟨n, id, t - sumL xs⟩ :: { u with af := u.af - (t - sumL xs) } :: zs) = insA id t (tolds 0 (xs ++ u :: zs)) := by
  have hb : ∀ p, ((u.id, sumL xs + u.af) :: tolds (sumL xs + u.af) zs).head? = some p → t < p.2 := by
    intro p hp; simp at hp; subst hp; simp; omega
  have h := take_of (A := tolds 0 xs) hle hb
  rw [← told_mid] at h
  unfold insA
  rw [h.1, h.2, told_mid]
  simp only [tolds]
  have e1 : sumL xs + (t - sumL xs) = t := by omega
  have e2 : t + (u.af - (t - sumL xs)) = sumL xs + u.af := by omega
  rw [e1, e2]

theorem told_snoc_le {xs : List Tm} {t : Tm} {k : Int} (h : ∀ p ∈ tolds 0 xs, p.2 ≤ k) (ht : t.af ≤ k - sumL xs) : ∀ p ∈ tolds 0 (xs ++ [t]), p.2 ≤ k := by
  intro p hp
  rw [tolds_append] at hp
  rcases List.mem_append.1 hp with hp | hp
  · exact h p hp
  · simp [tolds] at hp
    subst hp
    simp; omega

/-- A tick: the first one's difference less one; those of 0 at the beginning are due. -/
theorem told_less (t : Tm) (r : List Tm) : tolds 0 ({ t with af := t.af - 1 } :: r) = (tolds 0 (t :: r)).map fun p => (p.1, p.2 - 1) := by
  have gen : ∀ (L : List Tm) (c : Int), tolds (c - 1) L = (tolds c L).map fun p => (p.1, p.2 - 1) := by
    intro L
    induction L with
    | nil => intro c; rfl
    | cons t r ih => intro c; simp [tolds]; refine ⟨by omega, ?_⟩; rw [← ih]; congr 1; omega
  have := gen (t :: r) 0
  rw [← this]
  simp [tolds]
  have e : t.af - 1 = -1 + t.af := by omega
  rw [e]
  exact ⟨rfl, rfl⟩

/-- The due ones among timers whose differences are told a tick later. -/
def dueB (B : List (Int × Int)) : List Int := (B.takeWhile fun p => decide (p.2 = 0)).map (·.1)
def restB (B : List (Int × Int)) : List (Int × Int) := B.dropWhile fun p => decide (p.2 = 0)
theorem dueB_map (A : List (Int × Int)) : dueB (A.map fun p => (p.1, p.2 - 1)) = dueA A ∧ restB (A.map fun p => (p.1, p.2 - 1)) = tickA A := by
  induction A with
  | nil => exact ⟨rfl, rfl⟩
  | cons a A ih =>
    unfold dueB dueA restB tickA at *
    have e : decide (a.2 - 1 = 0) = decide (a.2 = 1) := by
      rw [Bool.eq_iff_iff]; simp; omega
    simp only [List.map_cons, List.takeWhile_cons, List.dropWhile_cons, e]
    cases decide (a.2 = 1)
    · simp
    · simp [ih]
end Go.Proofs.Ytkbmgilceioieaa
