/- Plain mathematics of timers: rows sorted by ticks, of the same as they were added; the reference's timers, as they were added, held against the row. No statement about the program. -/
import Derived.Test.YtkbmgilceioieaaDH
namespace Go.Proofs.Ytkbmgilceioieaa

def atF (x : Int) (A : List (Int × Int)) : List (Int × Int) := A.filter fun p => decide (p.2 = x)
theorem atF_app (x : Int) (A B : List (Int × Int)) : atF x (A ++ B) = atF x A ++ atF x B := by unfold atF; simp
theorem atF_mem {x : Int} {A : List (Int × Int)} {p : Int × Int} : p ∈ atF x A ↔ p ∈ A ∧ p.2 = x := by unfold atF; simp
def Sorted (A : List (Int × Int)) : Prop := A.Pairwise fun p q => p.2 ≤ q.2

/-- A sorted row is what it holds at each count of ticks. -/
theorem sorted_uniq {A B : List (Int × Int)} (hA : Sorted A) (hB : Sorted B) (h : ∀ x, atF x A = atF x B) : A = B := by
  induction A generalizing B with
  | nil =>
    cases B with
    | nil => rfl
    | cons b B =>
      have := h b.2
      unfold atF at this
      simp at this
  | cons a A ih =>
    cases B with
    | nil =>
      have := h a.2
      unfold atF at this
      simp at this
    | cons b B =>
      have ha : (a : Int × Int) ∈ b :: B := (atF_mem.1 (by rw [← h a.2]; exact atF_mem.2 ⟨List.mem_cons_self .., rfl⟩)).1
      have hb : (b : Int × Int) ∈ a :: A := (atF_mem.1 (by rw [h b.2]; exact atF_mem.2 ⟨List.mem_cons_self .., rfl⟩)).1
      have l1 : b.2 ≤ a.2 := by
        rcases List.mem_cons.1 ha with e | hm
        · rw [e]; exact Int.le_refl _
        · exact (List.pairwise_cons.1 hB).1 a hm
      have l2 : a.2 ≤ b.2 := by
        rcases List.mem_cons.1 hb with e | hm
        · rw [e]; exact Int.le_refl _
        · exact (List.pairwise_cons.1 hA).1 b hm
      have e2 : a.2 = b.2 := by omega
      have e1 : a = b := by
        have := h a.2
        unfold atF at this
        rw [List.filter_cons, List.filter_cons] at this
        simp [e2] at this
        exact this.1
      subst e1
      congr 1
      refine ih (List.pairwise_cons.1 hA).2 (List.pairwise_cons.1 hB).2 fun x => ?_
      have := h x
      unfold atF at this ⊢
      rw [List.filter_cons, List.filter_cons] at this
      split at this
      · exact (List.cons.inj this).2
      · exact this

/-- The row tells just the timers as they were added. -/
def Rel (A r : List (Int × Int)) : Prop := ∀ x, atF x A = atF x r
theorem Rel.mem {A r : List (Int × Int)} (h : Rel A r) (p : Int × Int) : p ∈ A ↔ p ∈ r := by
  have := h p.2
  constructor
  · intro hp; exact (atF_mem.1 (this ▸ atF_mem.2 ⟨hp, rfl⟩)).1
  · intro hp; exact (atF_mem.1 (this ▸ atF_mem.2 ⟨hp, rfl⟩)).1
theorem Rel.perm {A r : List (Int × Int)} (h : Rel A r) : A.Perm r := by
  rw [List.perm_iff_count]
  intro p
  have e : ∀ B : List (Int × Int), B.count p = (atF p.2 B).count p := fun B => by
    unfold atF
    rw [List.count_filter]
    simp
  rw [e A, e r, h p.2]
theorem Rel.len {A r : List (Int × Int)} (h : Rel A r) : A.length = r.length := h.perm.length_eq
theorem Rel.inA {A r : List (Int × Int)} (h : Rel A r) (id : Int) : inA id A = inA id r := by
  rw [Bool.eq_iff_iff, inA_iff, inA_iff, List.mem_map, List.mem_map]
  constructor
  · rintro ⟨p, hp, e⟩; exact ⟨p, (h.mem p).1 hp, e⟩
  · rintro ⟨p, hp, e⟩; exact ⟨p, (h.mem p).2 hp, e⟩
theorem Rel.fits {A r : List (Int × Int)} (h : Rel A r) (id t : Int) : fitsA id t A = fitsA id t r := by
  unfold fitsA; rw [h.inA, h.len]
theorem Rel.cancel {A r : List (Int × Int)} (h : Rel A r) (id : Int) : Rel (cancelA id A) (cancelA id r) := by
  intro x
  have := h x
  unfold atF cancelA at *
  rw [List.filter_filter, List.filter_filter]
  have e : ∀ B : List (Int × Int), B.filter (fun a => decide (a.2 = x) && decide (a.1 ≠ id)) = (B.filter fun p => decide (p.2 = x)).filter fun p => decide (p.1 ≠ id) := fun B => by
    rw [List.filter_filter]; congr 1; funext a; rw [Bool.and_comm]
  rw [e A, e r, this]
theorem ins_at (id t x : Int) {A : List (Int × Int)} (hs : Sorted A) : atF x (insA id t A) = atF x A ++ atF x [(id, t)] := by
  unfold insA
  have split := List.takeWhile_append_dropWhile (p := fun p : Int × Int => decide (p.2 ≤ t)) (l := A)
  generalize hT : A.takeWhile (fun p => decide (p.2 ≤ t)) = T at *
  generalize hD : A.dropWhile (fun p => decide (p.2 ≤ t)) = D at *
  have hgt : ∀ p ∈ D, t < p.2 := by rw [← hD]; exact drop_gt hs
  rw [← split]
  rw [show T ++ (id, t) :: D = T ++ ([(id, t)] ++ D) from rfl, atF_app, atF_app, atF_app, List.append_assoc]
  congr 1
  by_cases e : x = t
  · have : atF x D = [] := by
      unfold atF
      rw [List.filter_eq_nil_iff]
      intro p hp
      have := hgt p hp
      simp; omega
    rw [this]; simp
  · have : atF x [(id, t)] = [] := by
      unfold atF
      rw [List.filter_eq_nil_iff]
      intro p hp
      simp at hp
      subst hp
      simp; omega
    rw [this]; simp
theorem Rel.add {A r : List (Int × Int)} (h : Rel A r) (hok : OkA A) (id t : Int) : Rel (addA id t A) (raddA id t r) := by
  unfold addA raddA
  rw [h.fits]
  cases fitsA id t r with
  | false => exact h
  | true =>
    intro x
    simp only [if_true]
    rw [ins_at id t x (okA_cancel hok).sorted, atF_app, h.cancel id x]
theorem take_one {A : List (Int × Int)} (hok : OkA A) : A.takeWhile (fun p => decide (p.2 = 1)) = atF 1 A ∧ A.dropWhile (fun p => decide (p.2 = 1)) = A.filter fun p => decide (p.2 ≠ 1) := by
  have hd := drop_one hok
  have split := List.takeWhile_append_dropWhile (p := fun p : Int × Int => decide (p.2 = 1)) (l := A)
  have hall : ∀ p ∈ A.takeWhile (fun p => decide (p.2 = 1)), p.2 = 1 := by
    intro p hp
    have := List.all_eq_true.1 (List.all_takeWhile (p := fun p : Int × Int => decide (p.2 = 1)) (l := A)) p hp
    simpa using this
  generalize hT : A.takeWhile (fun p => decide (p.2 = 1)) = T at *
  generalize hD : A.dropWhile (fun p => decide (p.2 = 1)) = D at *
  rw [← split]
  unfold atF
  rw [List.filter_append, List.filter_append]
  have e1 : T.filter (fun p => decide (p.2 = 1)) = T := by rw [List.filter_eq_self]; intro p hp; simpa using hall p hp
  have e2 : D.filter (fun p => decide (p.2 = 1)) = [] := by rw [List.filter_eq_nil_iff]; intro p hp; have := hd p hp; simp; omega
  have e3 : T.filter (fun p => decide (p.2 ≠ 1)) = [] := by rw [List.filter_eq_nil_iff]; intro p hp; have := hall p hp; simp [this]
  have e4 : D.filter (fun p => decide (p.2 ≠ 1)) = D := by rw [List.filter_eq_self]; intro p hp; have := hd p hp; simp; omega
  rw [e1, e2, e3, e4]
  simp
theorem Rel.due {A r : List (Int × Int)} (h : Rel A r) (hok : OkA A) : dueA A = dueR r := by
  have := h 1
  unfold dueA dueR
  rw [(take_one hok).1, this]
  rfl
theorem restR_at (x : Int) (r : List (Int × Int)) : atF x (restR r) = if x = 0 then [] else (atF (x + 1) r).map fun p => (p.1, p.2 - 1) := by
  unfold atF restR
  rw [List.filter_map, List.filter_filter]
  by_cases e : x = 0
  · rw [if_pos e, List.map_eq_nil_iff, List.filter_eq_nil_iff]
    intro p _
    subst e
    simp; omega
  · rw [if_neg e]
    congr 1
    apply List.filter_congr
    intro p _
    rw [Bool.eq_iff_iff]
    simp; omega
theorem Rel.tick {A r : List (Int × Int)} (h : Rel A r) (hok : OkA A) : Rel (tickA A) (restR r) := by
  have e : tickA A = restR A := by unfold tickA restR; rw [(take_one hok).2]
  intro x
  rw [e, restR_at, restR_at, h (x + 1)]

/-! ### The selection: what is told, and what is left -/
structure Sel (r O M : List (Int × Int)) : Prop where
  at_ : ∀ x, atF x O ++ atF x M = atF x r
  sorted : Sorted O
  le : ∀ o ∈ O, ∀ m ∈ M, o.2 ≤ m.2
  len : O.length + M.length = r.length

theorem Sel.start (r : List (Int × Int)) : Sel r [] r := ⟨fun x => by simp [atF], .nil, by simp, by simp⟩
theorem Sel.end {r O : List (Int × Int)} (h : Sel r O []) {A : List (Int × Int)} (hr : Rel A r) (hs : Sorted A) : O = A :=
  sorted_uniq h.sorted hs fun x => by
    have := h.at_ x
    rw [hr x, ← this]; simp [atF]
theorem split_at (M : List (Int × Int)) (k : Nat) (hk : k < M.length) : M = M.take k ++ (aI M k, aT M k) :: M.drop (k + 1) := by
  have h1 := List.take_append_drop (k + 1) M
  rw [take_snocA M k hk, List.append_assoc] at h1
  exact h1.symm
theorem Sel.step {r O M : List (Int × Int)} (h : Sel r O M) {k : Nat} (hk : k < M.length) (hmin : ∀ j, j < M.length → aT M k ≤ aT M j) (hfst : ∀ j, j < k → aT M k < aT M j) :
    Sel r (O ++ [(aI M k, aT M k)]) (M.take k ++ M.drop (k + 1)) := by
  have hs := split_at M k hk
  have hmem : (aI M k, aT M k) ∈ M := mem_atA M k hk
  have hall : ∀ m ∈ M, aT M k ≤ m.2 := fun m hm => by
    obtain ⟨j, hj, rfl⟩ := List.mem_iff_getElem.1 hm
    have := hmin j hj
    unfold aT at this ⊢
    simpa [hj] using this
  have hsub : ∀ m ∈ M.take k ++ M.drop (k + 1), m ∈ M := fun m hm => by
    rcases List.mem_append.1 hm with hm | hm
    · exact List.mem_of_mem_take hm
    · exact List.mem_of_mem_drop hm
  refine ⟨fun x => ?_, ?_, ?_, ?_⟩
  · have := h.at_ x
    rw [hs, show M.take k ++ (aI M k, aT M k) :: M.drop (k + 1) = M.take k ++ ([(aI M k, aT M k)] ++ M.drop (k + 1)) from rfl, atF_app, atF_app] at this
    rw [← this, atF_app, atF_app, List.append_assoc]
    congr 1
    by_cases e : x = aT M k
    · have hn : atF x (M.take k) = [] := by
        unfold atF
        rw [List.filter_eq_nil_iff]
        intro p hp
        obtain ⟨j, hj, rfl⟩ := List.mem_iff_getElem.1 hp
        have hjk : j < k := by rw [List.length_take] at hj; omega
        have := hfst j hjk
        have e2 : aT M j = (M.take k)[j].2 := by
          unfold aT
          rw [List.getElem_take]
          simp [show j < M.length by omega]
        rw [e2] at this
        simp only [decide_eq_true_eq]
        intro e3
        omega
      rw [hn]; simp
    · have hn : atF x [(aI M k, aT M k)] = [] := by
        unfold atF
        rw [List.filter_eq_nil_iff]
        intro p hp
        simp at hp
        subst hp
        simp; omega
      rw [hn]; simp
  · unfold Sorted
    rw [List.pairwise_append]
    refine ⟨h.sorted, by simp, fun o ho m hm => ?_⟩
    simp at hm
    subst hm
    exact h.le o ho _ hmem
  · intro o ho m hm
    rcases List.mem_append.1 ho with ho | ho
    · exact h.le o ho m (hsub m hm)
    · simp at ho
      subst ho
      exact hall m (hsub m hm)
  · have := h.len
    simp only [List.length_append, List.length_cons, List.length_nil, List.length_take, List.length_drop]
    omega
end Go.Proofs.Ytkbmgilceioieaa
