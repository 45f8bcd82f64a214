/- Plain lemmas of this prover's own: a region that draws its order, its head walked once in the order of its text over a class of worlds, then its last operations, which wait for all of the head. No statement about the program. -/
import Derived.Test.YtimaihdlaaonbaaDoorHeld
import Derived.StillTail
namespace Go.Proofs.YtimaihdlaaonbaaDoor
open Go.RowKit

section
variable {P : Program} {C : World → Prop} {md : Region.Mode}
theorem qOp_of_head {h t : List Oper} {i : Nat} {K : Act → Prop} {a : Act} (hi : i < h.length) (hg : ∀ o ∈ h, o.guard = none) (hq : qOp P h.toArray C i K a) : qOp P (h ++ t).toArray C i K a := by
  have e1 : h.toArray[i]? = some h[i] := by simp [hi]
  have e2 : (h ++ t).toArray[i]? = some h[i] := by simp [List.getElem?_append_left hi, hi]
  have hgi := hg h[i] (List.getElem_mem hi)
  have w : ∀ ops : Array Oper, Region.wanted h[i] (yielded ops a.tmps) = true := fun ops => by simp [Region.wanted, hgi]
  unfold qOp at hq ⊢
  rw [e1] at hq
  rw [e2]
  simp only [w, if_true] at hq ⊢
  exact hq
/-- The whole region's list of what has come up, none of the tail yet. -/
def Agr (n m : Nat) (s f : Array Bool) : Prop := s.size = n ∧ f.size = n + m ∧ (∀ j, j < n → f[j]? = s[j]?) ∧ ∀ j, n ≤ j → j < n + m → f[j]? = some false
theorem Agr.set_ {n m i : Nat} {s f : Array Bool} (h : Agr n m s f) (hi : i < n) : Agr n m (s.setIfInBounds i true) (f.setIfInBounds i true) := by
  obtain ⟨h1, h2, h3, h4⟩ := h
  refine ⟨by simpa using h1, by simpa using h2, fun j hj => ?_, fun j hj hj2 => ?_⟩
  · rw [Array.getElem?_setIfInBounds, Array.getElem?_setIfInBounds, h3 j hj, h1, h2]
    by_cases e : i = j
    · subst e; simp [hi, show i < n + m by omega]
    · simp [e]
  · rw [Array.getElem?_setIfInBounds, if_neg (by omega)]; exact h4 j hj hj2
theorem getD_of {a : Array Bool} {j : Nat} {b : Bool} : a.getD j b = (a[j]?).getD b := by simp [Array.getD_eq_getD_getElem?]
/-- What may come up in the whole region while the head is not through is what may come up in the head. -/
theorem ready_head {h t : List Oper} {s f : Array Bool} (hA : Agr h.length t.length s f) (hback : ∀ k o, h[k]? = some o → ∀ e ∈ o.after, Region.binds md e = true → e.on < k)
    (hwait : ∀ o ∈ t, ∀ k, k < h.length → ∃ e ∈ o.after, Region.binds md e = true ∧ e.on = k) (hu : ∃ k, k < h.length ∧ s[k]? = some false) (i : Nat) (hi : i ∈ Region.ready md (h ++ t).toArray f) :
    i < h.length ∧ i ∈ Region.ready md h.toArray s := by
  obtain ⟨h1, h2, h3, h4⟩ := hA
  rw [mem_ready] at hi
  obtain ⟨g0, o, ho, hall⟩ := hi
  rw [List.getElem?_toArray] at ho
  by_cases hlt : i < h.length
  · refine ⟨hlt, ?_⟩
    rw [List.getElem?_append_left hlt] at ho
    rw [mem_ready]
    refine ⟨by rw [getD_of] at g0 ⊢; rw [← h3 i hlt]; exact g0, o, by rw [List.getElem?_toArray]; exact ho, fun e he hb => ?_⟩
    have hk := hback i o ho e he hb
    have := hall e he hb
    rw [getD_of] at this ⊢
    rw [← h3 e.on (by omega)]; exact this
  · exfalso
    rw [List.getElem?_append_right (by omega)] at ho
    obtain ⟨k, hk, hs⟩ := hu
    obtain ⟨e, he, hb, rfl⟩ := hwait o (List.mem_of_getElem? ho) k hk
    have := hall e he hb
    rw [getD_of, h3 e.on hk, hs] at this
    cases this
/-- While the head is not through, something of it may come up. -/
theorem ready_some {h t : List Oper} {s f : Array Bool} (hA : Agr h.length t.length s f) (hback : ∀ k o, h[k]? = some o → ∀ e ∈ o.after, Region.binds md e = true → e.on < k) (hu : ∃ k, k < h.length ∧ s[k]? = some false) :
    Region.ready md (h ++ t).toArray f ≠ [] := by
  obtain ⟨h1, h2, h3, h4⟩ := hA
  have key : ∀ k, k ≤ h.length → (∀ j, j < k → s[j]? = some true) ∨ ∃ i, i ∈ Region.ready md (h ++ t).toArray f := by
    intro k
    induction k with
    | zero => intro _; left; intro j hj; omega
    | succ k ih =>
      intro hk
      rcases ih (by omega) with h0 | h0
      · have hks : k < s.size := by omega
        cases hb : s[k] with
        | true =>
          left
          intro j hj
          by_cases e : j = k
          · subst e; rw [Array.getElem?_eq_getElem hks, hb]
          · exact h0 j (by omega)
        | false =>
          right
          have hkl : k < h.length := by omega
          refine ⟨k, ?_⟩
          rw [mem_ready]
          refine ⟨by rw [getD_of, h3 k hkl, Array.getElem?_eq_getElem hks, hb]; rfl, h[k], by rw [List.getElem?_toArray, List.getElem?_append_left hkl, List.getElem?_eq_getElem hkl], fun e he hbd => ?_⟩
          have hlt := hback k h[k] (List.getElem?_eq_getElem hkl) e he hbd
          rw [getD_of, h3 e.on (by omega), h0 e.on hlt]; rfl
      · exact .inr h0
  obtain ⟨k, hk, hs⟩ := hu
  rcases key h.length (Nat.le_refl _) with h0 | ⟨i, hi⟩
  · rw [h0 k hk] at hs; cases hs
  · intro e; rw [e] at hi; cases hi
def unl : List Bool → Nat
  | [] => 0
  | b :: l => (if b then 0 else 1) + unl l
theorem unl_set : ∀ (l : List Bool) (i : Nat), l[i]? = some false → unl (l.set i true) + 1 = unl l
  | [], i, h => by simp at h
  | b :: l, 0, h => by
    have hb : b = false := by simpa using h
    subst hb; simp [unl]; omega
  | b :: l, i + 1, h => by
    have := unl_set l i (by simpa using h)
    simp only [List.set_cons_succ, unl]; omega
theorem unl_zero : ∀ (l : List Bool) (j : Nat), unl l = 0 → j < l.length → l[j]? = some true
  | [], j, _, hj => by simp at hj
  | b :: l, j, h, hj => by
    simp only [unl] at h
    cases b with
    | false => simp at h
    | true =>
      cases j with
      | zero => rfl
      | succ j => exact unl_zero l j (by simpa using h) (by simpa using hj)
theorem unl_pos : ∀ (l : List Bool), unl l ≠ 0 → ∃ k, k < l.length ∧ l[k]? = some false
  | [], h => absurd rfl h
  | b :: l, h => by
    cases b with
    | false => exact ⟨0, by simp, rfl⟩
    | true =>
      obtain ⟨k, hk, hs⟩ := unl_pos l (by simpa [unl] using h)
      exact ⟨k + 1, by simpa using hk, by simpa using hs⟩
theorem unl_all (n : Nat) : unl (List.replicate n false) = n := by
  induction n with
  | zero => rfl
  | succ n ih => rw [List.replicate_succ, unl, ih]; simp; omega

theorem lift_head {h t : List Oper} {Q : Exit → Act → World → Prop} {Qf : Act → Prop} (hg : ∀ o ∈ h, o.guard = none) (hback : ∀ k o, h[k]? = some o → ∀ e ∈ o.after, Region.binds md e = true → e.on < k)
    (hwait : ∀ o ∈ t, ∀ k, k < h.length → ∃ e ∈ o.after, Region.binds md e = true ∧ e.on = k)
    (htail : ∀ f a w, Agr h.length t.length (Array.replicate h.length true) f → C w → Qf a → wpAny P md (h ++ t).toArray Q t.length f a w) :
    ∀ (fuel : Nat) (s f : Array Bool) (a : Act) (w : World), Agr h.length t.length s f → unl s.toList = fuel → C w → wpAnyQ P md h.toArray C Qf fuel s a → wpAny P md (h ++ t).toArray Q (fuel + t.length) f a w
  | 0, s, f, a, w, hA, hu, hC, hq => by
    have hs : s = Array.replicate h.length true := by
      apply Array.ext_getElem?
      intro j
      by_cases hj : j < h.length
      · have := unl_zero s.toList j hu (by rw [Array.length_toList, hA.1]; exact hj)
        rw [Array.getElem?_toList] at this
        rw [this]; simp [hj]
      · rw [Array.getElem?_eq_none (by have := hA.1; omega), Array.getElem?_eq_none (by simp; omega)]
    subst hs
    rw [Nat.zero_add]
    exact htail f a w hA hC hq.2
  | fuel + 1, s, f, a, w, hA, hu, hC, hq => by
    obtain ⟨k, hk, hks⟩ := unl_pos s.toList (by omega)
    rw [Array.length_toList, hA.1] at hk
    rw [Array.getElem?_toList] at hks
    rw [show fuel + 1 + t.length = (fuel + t.length) + 1 by omega]
    refine ⟨fun h0 => absurd h0 (ready_some hA hback ⟨k, hk, hks⟩), fun i hi => ?_⟩
    obtain ⟨hlt, hi'⟩ := ready_head hA hback hwait ⟨k, hk, hks⟩ i hi
    have hsi : s[i]? = some false := by
      have := (mem_ready.1 hi').1
      rw [getD_of] at this
      have hz : i < s.size := by rw [hA.1]; exact hlt
      rw [Array.getElem?_eq_getElem hz] at this ⊢
      simpa using this
    exact wpOp_of_qOp hC (fun a' w' hw' hk' => lift_head hg hback hwait htail fuel _ _ a' w' (hA.set_ hlt) (by
      have := unl_set s.toList i (by rw [Array.getElem?_toList]; exact hsi)
      rw [Array.toList_setIfInBounds]; omega) hw' hk') (qOp_of_head hlt hg (hq.2 i hi'))

def noGuards (h : List Oper) : Bool := h.all fun o => o.guard.isNone
def waitsAll (md : Region.Mode) (n : Nat) (t : List Oper) : Bool := t.all fun o => (List.range n).all fun k => o.after.toList.any fun e => Region.binds md e && Nat.beq e.on k
theorem go_back {ops : Array Oper} : ∀ (l : List Oper) (k : Nat), lexGo md ops k l = true → ∀ j o, l[j]? = some o → ∀ e ∈ o.after, Region.binds md e = true → e.on < k + j
  | [], _, _, j, o, h, _, _, _ => by simp at h
  | x :: l, k, hB, j, o, h, e, he, hb => by
    unfold lexGo at hB
    simp only [Bool.and_eq_true] at hB
    cases j with
    | zero =>
      have hx : x = o := by simpa using h
      subst hx
      have := List.all_eq_true.1 hB.1.1 e (by simpa using he)
      rw [hb] at this
      simpa using this
    | succ j =>
      have := go_back l (k + 1) hB.2 j o (by simpa using h) e he hb
      omega

/-- A region whose head is walked once, in the order of its text, over the class C, and whose last operations wait for all of the head: they come up one behind the other, in any world of the class. -/
theorem wp_region_tail {id : Nat} {Q : Exit → Act → World → Prop} {a : Act} {w : World} (h t : List Oper) (hm : P.follows .mixedOrders = true) (hn : Region.noSelect h.toArray = true) (hB : lexGo .any h.toArray 0 h = true)
    (hg : noGuards h = true) (hw : waitsAll .any h.length t = true) (hs : Region.seqB .any (h ++ t).toArray t.length h.length (List.replicate h.length true ++ List.replicate t.length false).toArray = true) (hC : C w.drew)
    (hq : wpQuiet P h.toArray C (fun a' => ∀ w', C w' → wpList P (h ++ t).toArray Q t a' w') h a) : (Code.region id (h ++ t).toArray true).wp P Q a w := by
  have hg' : ∀ o ∈ h, o.guard = none := fun o ho => by have := List.all_eq_true.1 hg o ho; simpa using this
  have hback : ∀ k o, h[k]? = some o → ∀ e ∈ o.after, Region.binds .any e = true → e.on < k := fun k o ho e he hb => by have := go_back h 0 hB k o ho e he hb; omega
  have hwait : ∀ o ∈ t, ∀ k, k < h.length → ∃ e ∈ o.after, Region.binds .any e = true ∧ e.on = k := fun o ho k hk => by
    have h1 := List.all_eq_true.1 (List.all_eq_true.1 hw o ho) k (List.mem_range.2 hk)
    rw [List.any_eq_true] at h1
    obtain ⟨e, he, hb⟩ := h1
    rw [Bool.and_eq_true] at hb
    exact ⟨e, by simpa using he, hb.1, by simpa using hb.2⟩
  have hQ := wpAnyQ_lex (P := P) (C := C) (md := .any) hn h 0 (Array.replicate h.length false) a (by simp) (lexFrom_of_go h 0 _ (fun j => by simp) (by simp) (fun j hj => by simp at hj; simp [Array.getD, hj]) hB) hq
  refine wp_region_any hm ?_
  have := lift_head (Q := Q) hg' hback hwait (fun f a' w' hA hC' hq' => by
    have hf : f = (List.replicate h.length true ++ List.replicate t.length false).toArray := by
      obtain ⟨_, g2, g3, g4⟩ := hA
      apply Array.ext_getElem?
      intro j
      have e : (List.replicate h.length true ++ List.replicate t.length false).toArray[j]? = (List.replicate h.length true ++ List.replicate t.length false)[j]? := List.getElem?_toArray ..
      rw [e]
      by_cases hj : j < h.length
      · rw [g3 j hj, List.getElem?_append_left (by simpa using hj)]; simp [hj]
      · rw [List.getElem?_append_right (by simp; omega)]
        by_cases hj2 : j < h.length + t.length
        · rw [g4 j (by omega) hj2, List.getElem?_replicate, if_pos (by rw [List.length_replicate]; omega)]
        · rw [Array.getElem?_eq_none (by omega), List.getElem?_eq_none (by rw [List.length_replicate, List.length_replicate]; omega)]
    rw [hf]
    exact wpAny_of_seq t h.length _ a' w' (fun j => by rw [List.getElem?_toArray, List.getElem?_append_right (by omega)]; congr 1; omega) hs (hq' w' hC')) h.length (Array.replicate h.length false) (Array.replicate (h ++ t).toArray.size false) a w.drew
      ⟨by simp, by simp, fun j hj => by simp [hj, show j < h.length + t.length by omega], fun j hj hj2 => by simp [hj2]⟩ (by simpa using unl_all h.length) hC hQ
  simpa using this
/-- The same, the head said by its length. -/
theorem wp_region_take {id : Nat} {Q : Exit → Act → World → Prop} {a : Act} {w : World} (l : List Oper) (n : Nat) (hm : P.follows .mixedOrders = true) (hn : Region.noSelect (l.take n).toArray = true) (hB : lexGo .any (l.take n).toArray 0 (l.take n) = true)
    (hg : noGuards (l.take n) = true) (hw : waitsAll .any (l.take n).length (l.drop n) = true) (hs : Region.seqB .any (l.take n ++ l.drop n).toArray (l.drop n).length (l.take n).length (List.replicate (l.take n).length true ++ List.replicate (l.drop n).length false).toArray = true) (hC : C w.drew)
    (hq : wpQuiet P (l.take n).toArray C (fun a' => ∀ w', C w' → wpList P l.toArray Q (l.drop n) a' w') (l.take n) a) : (Code.region id l.toArray true).wp P Q a w := by
  have := wp_region_tail (P := P) (C := C) (id := id) (Q := Q) (a := a) (w := w) (l.take n) (l.drop n) hm hn hB hg hw hs hC (by rw [List.take_append_drop]; exact hq)
  rw [List.take_append_drop] at this
  exact this
end
end Go.Proofs.YtimaihdlaaonbaaDoor
