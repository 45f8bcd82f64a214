/- Several texts in one: Tail, Split, Hd. -/
import Derived.Test.YthpagbfabpfngaaPk20
import Derived.StillTail
/- Plain lemmas of this prover's own: a region that draws its order, its head walked once in the order of its text over a class of worlds, then its last operations, which wait for all of the head. No statement about the program. -/
namespace Go.Proofs.Ythpagbfabpfngaa
open Go.RowKit

section
variable {P : Program} {C : World → Prop} {md : Region.Mode}
theorem qOp_of_head {h t : List Oper} {i : Nat} {K : Act → Prop} {a : Act} (hi : i < h.length) (hg : ∀ o ∈ h, o.guard = none) (hq : qOp P h.toArray C i K a) : qOp P (h ++ t).toArray C i K a := by
  have e1 : h.toArray[i]? = some h[i] := by simp [hi]
  have e2 : (h ++ t).toArray[i]? = some h[i] := by simp [List.getElem?_append_left hi, hi]
  have hgi := hg h[i] (List.getElem_mem hi)
  have w : ∀ ops : Array Oper, Region.wanted h[i] (yielded ops a.tmps) = true := fun ops => by simp [Region.wanted, hgi]
  unfold qOp at hq ⊢
  rw [e1] at hq
  rw [e2]
  simp only [w, if_true] at hq ⊢
  exact hq
/-- The whole region's list of what has come up, none of the tail yet. -/
def Agr (n m : Nat) (s f : Array Bool) : Prop := s.size = n ∧ f.size = n + m ∧ (∀ j, j < n → f[j]? = s[j]?) ∧ ∀ j, n ≤ j → j < n + m → f[j]? = some false
theorem Agr.set_ {n m i : Nat} {s f : Array Bool} (h : Agr n m s f) (hi : i < n) : Agr n m (s.setIfInBounds i true) (f.setIfInBounds i true) := by
  obtain ⟨h1, h2, h3, h4⟩ := h
  refine ⟨by simpa using h1, by simpa using h2, fun j hj => ?_, fun j hj hj2 => ?_⟩
  · rw [Array.getElem?_setIfInBounds, Array.getElem?_setIfInBounds, h3 j hj, h1, h2]
    by_cases e : i = j
    · subst e; simp [hi, show i < n + m by omega]
    · simp [e]
  · rw [Array.getElem?_setIfInBounds, if_neg (by omega)]; exact h4 j hj hj2
theorem getD_of {a : Array Bool} {j : Nat} {b : Bool} : a.getD j b = (a[j]?).getD b := by simp [Array.getD_eq_getD_getElem?]
/-- What may come up in the whole region while the head is not through is what may come up in the head. -/
theorem ready_head {h t : List Oper} {s f : Array Bool} (hA : Agr h.length t.length s f) (hback : ∀ k o, h[k]? = some o → ∀ e ∈ o.after, Region.binds md e = true → e.on < k)
    (hwait : ∀ o ∈ t, ∀ k, k < h.length → ∃ e ∈ o.after, Region.binds md e = true ∧ e.on = k) (hu : ∃ k, k < h.length ∧ s[k]? = some false) (i : Nat) (hi : i ∈ Region.ready md (h ++ t).toArray f) :
    i < h.length ∧ i ∈ Region.ready md h.toArray s := by
  obtain ⟨h1, h2, h3, h4⟩ := hA
  rw [mem_ready] at hi
  obtain ⟨g0, o, ho, hall⟩ := hi
  rw [List.getElem?_toArray] at ho
  by_cases hlt : i < h.length
  · refine ⟨hlt, ?_⟩
    rw [List.getElem?_append_left hlt] at ho
    rw [mem_ready]
    refine ⟨by rw [getD_of] at g0 ⊢; rw [← h3 i hlt]; exact g0, o, by rw [List.getElem?_toArray]; exact ho, fun e he hb => ?_⟩
    have hk := hback i o ho e he hb
    have := hall e he hb
    rw [getD_of] at this ⊢
    rw [← h3 e.on (by omega)]; exact this
  · exfalso
    rw [List.getElem?_append_right (by omega)] at ho
    obtain ⟨k, hk, hs⟩ := hu
    obtain ⟨e, he, hb, rfl⟩ := hwait o (List.mem_of_getElem? ho) k hk
    have := hall e he hb
    rw [getD_of, h3 e.on hk, hs] at this
    cases this
/-- While the head is not through, something of it may come up. -/
theorem ready_some {h t : List Oper} {s f : Array Bool} (hA : Agr h.length t.length s f) (hback : ∀ k o, h[k]? = some o → ∀ e ∈ o.after, Region.binds md e = true → e.on < k) (hu : ∃ k, k < h.length ∧ s[k]? = some false) :
    Region.ready md (h ++ t).toArray f ≠ [] := by
  obtain ⟨h1, h2, h3, h4⟩ := hA
  have key : ∀ k, k ≤ h.length → (∀ j, j < k → s[j]? = some true) ∨ ∃ i, i ∈ Region.ready md (h ++ t).toArray f := by
    intro k
    induction k with
    | zero => intro _; left; intro j hj; omega
    | succ k ih =>
      intro hk
      rcases ih (by omega) with h0 | h0
      · have hks : k < s.size := by omega
        cases hb : s[k] with
        | true =>
          left
          intro j hj
          by_cases e : j = k
          · subst e; rw [Array.getElem?_eq_getElem hks, hb]
          · exact h0 j (by omega)
        | false =>
          right
          have hkl : k < h.length := by omega
          refine ⟨k, ?_⟩
          rw [mem_ready]
          refine ⟨by rw [getD_of, h3 k hkl, Array.getElem?_eq_getElem hks, hb]; rfl, h[k], by rw [List.getElem?_toArray, List.getElem?_append_left hkl, List.getElem?_eq_getElem hkl], fun e he hbd => ?_⟩
          have hlt := hback k h[k] (List.getElem?_eq_getElem hkl) e he hbd
          rw [getD_of, h3 e.on (by omega), h0 e.on hlt]; rfl
      · exact .inr h0
  obtain ⟨k, hk, hs⟩ := hu
  rcases key h.length (Nat.le_refl _) with h0 | ⟨i, hi⟩
  · rw [h0 k hk] at hs; cases hs
  · intro e; rw [e] at hi; cases hi
def unl : List Bool → Nat
  | [] => 0
  | b :: l => (if b then 0 else 1) + unl l
theorem unl_set : ∀ (l : List Bool) (i : Nat), l[i]? = some false → unl (l.set i true) + 1 = unl l
  | [], i, h => by simp at h
  | b :: l, 0, h => by
    have hb : b = false := by simpa using h
    subst hb; simp [unl]; omega
  | b :: l, i + 1, h => by
    have := unl_set l i (by simpa using h)
    simp only [List.set_cons_succ, unl]; omega
theorem unl_zero : ∀ (l : List Bool) (j : Nat), unl l = 0 → j < l.length → l[j]? = some true
  | [], j, _, hj => by simp at hj
  | b :: l, j, h, hj => by
    simp only [unl] at h
    cases b with
    | false => simp at h
    | true =>
      cases j with
      | zero => rfl
      | succ j => exact unl_zero l j (by simpa using h) (by simpa using hj)
theorem unl_pos : ∀ (l : List Bool), unl l ≠ 0 → ∃ k, k < l.length ∧ l[k]? = some false
  | [], h => absurd rfl h
  | b :: l, h => by
    cases b with
    | false => exact ⟨0, by simp, rfl⟩
    | true =>
      obtain ⟨k, hk, hs⟩ := unl_pos l (by simpa [unl] using h)
      exact ⟨k + 1, by simpa using hk, by simpa using hs⟩
theorem unl_all (n : Nat) : unl (List.replicate n false) = n := by
  induction n with
  | zero => rfl
  | succ n ih => rw [List.replicate_succ, unl, ih]; simp; omega

theorem lift_head {h t : List Oper} {Q : Exit → Act → World → Prop} {Qf : Act → Prop} (hg : ∀ o ∈ h, o.guard = none) (hback : ∀ k o, h[k]? = some o → ∀ e ∈ o.after, Region.binds md e = true → e.on < k)
    (hwait : ∀ o ∈ t, ∀ k, k < h.length → ∃ e ∈ o.after, Region.binds md e = true ∧ e.on = k)
    (htail : ∀ f a w, Agr h.length t.length (Array.replicate h.length true) f → C w → Qf a → wpAny P md (h ++ t).toArray Q t.length f a w) :
    ∀ (fuel : Nat) (s f : Array Bool) (a : Act) (w : World), Agr h.length t.length s f → unl s.toList = fuel → C w → wpAnyQ P md h.toArray C Qf fuel s a → wpAny P md (h ++ t).toArray Q (fuel + t.length) f a w
  | 0, s, f, a, w, hA, hu, hC, hq => by
    have hs : s = Array.replicate h.length true := by
      apply Array.ext_getElem?
      intro j
      by_cases hj : j < h.length
      · have := unl_zero s.toList j hu (by rw [Array.length_toList, hA.1]; exact hj)
        rw [Array.getElem?_toList] at this
        rw [this]; simp [hj]
      · rw [Array.getElem?_eq_none (by have := hA.1; omega), Array.getElem?_eq_none (by simp; omega)]
    subst hs
    rw [Nat.zero_add]
    exact htail f a w hA hC hq.2
  | fuel + 1, s, f, a, w, hA, hu, hC, hq => by
    obtain ⟨k, hk, hks⟩ := unl_pos s.toList (by omega)
    rw [Array.length_toList, hA.1] at hk
    rw [Array.getElem?_toList] at hks
    rw [show fuel + 1 + t.length = (fuel + t.length) + 1 by omega]
    refine ⟨fun h0 => absurd h0 (ready_some hA hback ⟨k, hk, hks⟩), fun i hi => ?_⟩
    obtain ⟨hlt, hi'⟩ := ready_head hA hback hwait ⟨k, hk, hks⟩ i hi
    have hsi : s[i]? = some false := by
      have := (mem_ready.1 hi').1
      rw [getD_of] at this
      have hz : i < s.size := by rw [hA.1]; exact hlt
      rw [Array.getElem?_eq_getElem hz] at this ⊢
      simpa using this
    exact wpOp_of_qOp hC (fun a' w' hw' hk' => lift_head hg hback hwait htail fuel _ _ a' w' (hA.set_ hlt) (by
      have := unl_set s.toList i (by rw [Array.getElem?_toList]; exact hsi)
      rw [Array.toList_setIfInBounds]; omega) hw' hk') (qOp_of_head hlt hg (hq.2 i hi'))

def noGuards (h : List Oper) : Bool := h.all fun o => o.guard.isNone
def waitsAll (md : Region.Mode) (n : Nat) (t : List Oper) : Bool := t.all fun o => (List.range n).all fun k => o.after.toList.any fun e => Region.binds md e && Nat.beq e.on k
theorem go_back {ops : Array Oper} : ∀ (l : List Oper) (k : Nat), lexGo md ops k l = true → ∀ j o, l[j]? = some o → ∀ e ∈ o.after, Region.binds md e = true → e.on < k + j
  | [], _, _, j, o, h, _, _, _ => by simp at h
  | x :: l, k, hB, j, o, h, e, he, hb => by
    unfold lexGo at hB
    simp only [Bool.and_eq_true] at hB
    cases j with
    | zero =>
      have hx : x = o := by simpa using h
      subst hx
      have := List.all_eq_true.1 hB.1.1 e (by simpa using he)
      rw [hb] at this
      simpa using this
    | succ j =>
      have := go_back l (k + 1) hB.2 j o (by simpa using h) e he hb
      omega

/-- A region whose head is walked once, in the order of its text, over the class C, and whose last operations wait for all of the head: they come up one behind the other, in any world of the class. -/
theorem wp_region_tail {id : Nat} {Q : Exit → Act → World → Prop} {a : Act} {w : World} (h t : List Oper) (hm : P.follows .mixedOrders = true) (hn : Region.noSelect h.toArray = true) (hB : lexGo .any h.toArray 0 h = true)
    (hg : noGuards h = true) (hw : waitsAll .any h.length t = true) (hs : Region.seqB .any (h ++ t).toArray t.length h.length (List.replicate h.length true ++ List.replicate t.length false).toArray = true) (hC : C w.drew)
    (hq : wpQuiet P h.toArray C (fun a' => ∀ w', C w' → wpList P (h ++ t).toArray Q t a' w') h a) : (Code.region id (h ++ t).toArray true).wp P Q a w := by
  have hg' : ∀ o ∈ h, o.guard = none := fun o ho => by have := List.all_eq_true.1 hg o ho; simpa using this
  have hback : ∀ k o, h[k]? = some o → ∀ e ∈ o.after, Region.binds .any e = true → e.on < k := fun k o ho e he hb => by have := go_back h 0 hB k o ho e he hb; omega
  have hwait : ∀ o ∈ t, ∀ k, k < h.length → ∃ e ∈ o.after, Region.binds .any e = true ∧ e.on = k := fun o ho k hk => by
    have h1 := List.all_eq_true.1 (List.all_eq_true.1 hw o ho) k (List.mem_range.2 hk)
    rw [List.any_eq_true] at h1
    obtain ⟨e, he, hb⟩ := h1
    rw [Bool.and_eq_true] at hb
    exact ⟨e, by simpa using he, hb.1, by simpa using hb.2⟩
  have hQ := wpAnyQ_lex (P := P) (C := C) (md := .any) hn h 0 (Array.replicate h.length false) a (by simp) (lexFrom_of_go h 0 _ (fun j => by simp) (by simp) (fun j hj => by simp at hj; simp [Array.getD, hj]) hB) hq
  refine wp_region_any hm ?_
  have := lift_head (Q := Q) hg' hback hwait (fun f a' w' hA hC' hq' => by
    have hf : f = (List.replicate h.length true ++ List.replicate t.length false).toArray := by
      obtain ⟨_, g2, g3, g4⟩ := hA
      apply Array.ext_getElem?
      intro j
      have e : (List.replicate h.length true ++ List.replicate t.length false).toArray[j]? = (List.replicate h.length true ++ List.replicate t.length false)[j]? := List.getElem?_toArray ..
      rw [e]
      by_cases hj : j < h.length
      · rw [g3 j hj, List.getElem?_append_left (by simpa using hj)]; simp [hj]
      · rw [List.getElem?_append_right (by simp; omega)]
        by_cases hj2 : j < h.length + t.length
        · rw [g4 j (by omega) hj2, List.getElem?_replicate, if_pos (by rw [List.length_replicate]; omega)]
        · rw [Array.getElem?_eq_none (by omega), List.getElem?_eq_none (by rw [List.length_replicate, List.length_replicate]; omega)]
    rw [hf]
    exact wpAny_of_seq t h.length _ a' w' (fun j => by rw [List.getElem?_toArray, List.getElem?_append_right (by omega)]; congr 1; omega) hs (hq' w' hC')) h.length (Array.replicate h.length false) (Array.replicate (h ++ t).toArray.size false) a w.drew
      ⟨by simp, by simp, fun j hj => by simp [hj, show j < h.length + t.length by omega], fun j hj hj2 => by simp [hj2]⟩ (by simpa using unl_all h.length) hC hQ
  simpa using this
/-- The same, the head said by its length. -/
theorem wp_region_take {id : Nat} {Q : Exit → Act → World → Prop} {a : Act} {w : World} (l : List Oper) (n : Nat) (hm : P.follows .mixedOrders = true) (hn : Region.noSelect (l.take n).toArray = true) (hB : lexGo .any (l.take n).toArray 0 (l.take n) = true)
    (hg : noGuards (l.take n) = true) (hw : waitsAll .any (l.take n).length (l.drop n) = true) (hs : Region.seqB .any (l.take n ++ l.drop n).toArray (l.drop n).length (l.take n).length (List.replicate (l.take n).length true ++ List.replicate (l.drop n).length false).toArray = true) (hC : C w.drew)
    (hq : wpQuiet P (l.take n).toArray C (fun a' => ∀ w', C w' → wpList P l.toArray Q (l.drop n) a' w') (l.take n) a) : (Code.region id l.toArray true).wp P Q a w := by
  have := wp_region_tail (P := P) (C := C) (id := id) (Q := Q) (a := a) (w := w) (l.take n) (l.drop n) hm hn hB hg hw hs hC (by rw [List.take_append_drop]; exact hq)
  rw [List.take_append_drop] at this
  exact this
end
end Go.Proofs.Ythpagbfabpfngaa
/- Plain lemmas of this prover's own: a region that draws its order, parted at one call: what stands ahead of it is walked over one class of worlds, the call turns that class into another, what stands behind is walked over the other. No statement about the program. -/
namespace Go.Proofs.Ythpagbfabpfngaa
open Go.RowKit

section
variable {P : Program} {C C2 : World → Prop} {md : Region.Mode}
/-- The guards of the head speak of the head. -/
def guardsIn (h : List Oper) : Bool := h.all fun o => match o.guard with
  | none => true
  | some g => Nat.blt g.1 h.length
theorem qOp_of_in {h t : List Oper} {i : Nat} {K : Act → Prop} {a : Act} (hi : i < h.length) (hg : guardsIn h = true) (hq : qOp P h.toArray C i K a) : qOp P (h ++ t).toArray C i K a := by
  have e1 : h.toArray[i]? = some h[i] := by simp [hi]
  have e2 : (h ++ t).toArray[i]? = some h[i] := by simp [List.getElem?_append_left hi, hi]
  have hgi := List.all_eq_true.1 hg h[i] (List.getElem_mem hi)
  have w : Region.wanted h[i] (yielded (h ++ t).toArray a.tmps) = Region.wanted h[i] (yielded h.toArray a.tmps) := by
    unfold Region.wanted
    cases hgd : h[i].guard with
    | none => rfl
    | some g =>
      rw [hgd] at hgi
      have hlt : g.1 < h.length := by simpa using hgi
      have : yielded (h ++ t).toArray a.tmps g.1 = yielded h.toArray a.tmps g.1 := by
        unfold yielded
        rw [List.getElem?_toArray, List.getElem?_toArray, List.getElem?_append_left hlt]
      simp only [this]
  unfold qOp at hq ⊢
  rw [e1] at hq
  rw [e2]
  simp only [w]
  exact hq

/-- Is each operation of the head waited for by a later one of the head, or one of these? -/
def covers (md : Region.Mode) (h : List Oper) (L : List Nat) : Bool := (List.range h.length).all fun k => L.any (Nat.beq k) || (List.range h.length).any fun j => Nat.blt k j && (match h[j]? with
  | some o => o.after.toList.any (fun e => Region.binds md e && Nat.beq e.on k)
  | none => false)
/-- Does each of these operations wait for one from place n on, or for all of L? -/
def waitsL (md : Region.Mode) (n : Nat) (L : List Nat) (t : List Oper) : Bool := t.all fun o => (o.after.toList.any fun e => Region.binds md e && Nat.ble n e.on) || L.all fun k => o.after.toList.any fun e => Region.binds md e && Nat.beq e.on k
/-- What has come up, with all that it waits for. -/
def Clo (md : Region.Mode) (h : List Oper) (s : Array Bool) : Prop := ∀ (j : Nat) (o : Oper), h[j]? = some o → s[j]? = some true → ∀ e ∈ o.after, Region.binds md e = true → s[e.on]? = some true
theorem all_through {h : List Oper} {s : Array Bool} {L : List Nat} (hcl : Clo md h s) (hc : covers md h L = true) (hL : ∀ k ∈ L, s[k]? = some true) : ∀ d k, h.length ≤ k + d → k < h.length → s[k]? = some true
  | 0, k, h1, h2 => by omega
  | d + 1, k, h1, h2 => by
    have h3 := List.all_eq_true.1 hc k (List.mem_range.2 h2)
    rw [Bool.or_eq_true] at h3
    rcases h3 with h3 | h3
    · rw [List.any_eq_true] at h3
      obtain ⟨k', hk', e⟩ := h3
      have : k = k' := by simpa using e
      subst this
      exact hL _ hk'
    · rw [List.any_eq_true] at h3
      obtain ⟨j, hj, e⟩ := h3
      rw [Bool.and_eq_true] at e
      obtain ⟨e1, e2⟩ := e
      have hkj : k < j := by simpa using e1
      have hjl := List.mem_range.1 hj
      rw [List.getElem?_eq_getElem hjl] at e2
      simp only [List.any_eq_true] at e2
      obtain ⟨x, hx, hb⟩ := e2
      rw [Bool.and_eq_true] at hb
      have hon : x.on = k := by simpa using hb.2
      have := hcl j h[j] (List.getElem?_eq_getElem hjl) (all_through hcl hc hL d j (by omega) hjl) x (by simpa using hx) hb.1
      rw [hon] at this; exact this
theorem Agr.lt {n m : Nat} {s f : Array Bool} (h : Agr n m s f) {k : Nat} (hk : f.getD k false = true) : k < n ∧ s[k]? = some true := by
  obtain ⟨h1, h2, h3, h4⟩ := h
  rw [getD_of] at hk
  by_cases e : k < n
  · refine ⟨e, ?_⟩
    rw [h3 k e] at hk
    rw [Array.getElem?_eq_getElem (show k < s.size by omega)] at hk ⊢
    simpa using hk
  · exfalso
    by_cases e2 : k < n + m
    · rw [h4 k (by omega) e2] at hk; cases hk
    · rw [Array.getElem?_eq_none (by omega)] at hk; cases hk
/-- What may come up in the whole region while the head is not through is what may come up in the head. -/
theorem ready_head2 {h t : List Oper} {s f : Array Bool} {L : List Nat} (hA : Agr h.length t.length s f) (hback : ∀ k o, h[k]? = some o → ∀ e ∈ o.after, Region.binds md e = true → e.on < k)
    (hcl : Clo md h s) (hc : covers md h L = true) (hw : waitsL md h.length L t = true) (hu : ∃ k, k < h.length ∧ s[k]? = some false) (i : Nat) (hi : i ∈ Region.ready md (h ++ t).toArray f) :
    i < h.length ∧ i ∈ Region.ready md h.toArray s := by
  have hA' := hA
  obtain ⟨h1, h2, h3, h4⟩ := hA
  rw [mem_ready] at hi
  obtain ⟨g0, o, ho, hall⟩ := hi
  rw [List.getElem?_toArray] at ho
  by_cases hlt : i < h.length
  · refine ⟨hlt, ?_⟩
    rw [List.getElem?_append_left hlt] at ho
    rw [mem_ready]
    refine ⟨by rw [getD_of] at g0 ⊢; rw [← h3 i hlt]; exact g0, o, by rw [List.getElem?_toArray]; exact ho, fun e he hb => ?_⟩
    have hk := hback i o ho e he hb
    have := hall e he hb
    rw [getD_of] at this ⊢
    rw [← h3 e.on (by omega)]; exact this
  · exfalso
    rw [List.getElem?_append_right (by omega)] at ho
    have hm := List.all_eq_true.1 hw o (List.mem_of_getElem? ho)
    rw [Bool.or_eq_true] at hm
    rcases hm with hm | hm
    · rw [List.any_eq_true] at hm
      obtain ⟨e, he, hb⟩ := hm
      rw [Bool.and_eq_true] at hb
      have hn : h.length ≤ e.on := by simpa using hb.2
      have := hA'.lt (hall e (by simpa using he) hb.1)
      omega
    · obtain ⟨k, hk, hs⟩ := hu
      have := all_through hcl hc (fun k hk => by
        have hx := List.all_eq_true.1 hm k hk
        rw [List.any_eq_true] at hx
        obtain ⟨e, he, hb⟩ := hx
        rw [Bool.and_eq_true] at hb
        have hn : e.on = k := by simpa using hb.2
        have := (hA'.lt (hall e (by simpa using he) hb.1)).2
        rw [hn] at this; exact this) h.length k (by omega) hk
      rw [this] at hs; cases hs
theorem Clo.set_ {h : List Oper} {s : Array Bool} {i : Nat} (hcl : Clo md h s) (hi : i ∈ Region.ready md h.toArray s) : Clo md h (s.setIfInBounds i true) := by
  have up : ∀ k, s[k]? = some true → (s.setIfInBounds i true)[k]? = some true := fun k hk => by
    rw [Array.getElem?_setIfInBounds]
    by_cases e : i = k
    · subst e
      have : i < s.size := by
        by_cases hz : i < s.size
        · exact hz
        · rw [Array.getElem?_eq_none (by omega)] at hk; cases hk
      simp [this]
    · simp [e, hk]
  intro j o ho hj e he hb
  by_cases ej : i = j
  · subst ej
    obtain ⟨_, o', ho', hall⟩ := mem_ready.1 hi
    rw [List.getElem?_toArray, ho] at ho'
    cases ho'
    have := hall e he hb
    rw [getD_of] at this
    apply up
    cases hx : s[e.on]? with
    | none => rw [hx] at this; cases this
    | some b => rw [hx] at this; simpa using this
  · rw [Array.getElem?_setIfInBounds, if_neg ej] at hj
    exact up _ (hcl j o ho hj e he hb)
theorem lift_head2 {h t : List Oper} {L : List Nat} {Q : Exit → Act → World → Prop} {Qf : Act → Prop} (hg : guardsIn h = true) (hback : ∀ k o, h[k]? = some o → ∀ e ∈ o.after, Region.binds md e = true → e.on < k)
    (hc : covers md h L = true) (hw : waitsL md h.length L t = true)
    (htail : ∀ f a w, Agr h.length t.length (Array.replicate h.length true) f → C w → Qf a → wpAny P md (h ++ t).toArray Q t.length f a w) :
    ∀ (fuel : Nat) (s f : Array Bool) (a : Act) (w : World), Agr h.length t.length s f → Clo md h s → unl s.toList = fuel → C w → wpAnyQ P md h.toArray C Qf fuel s a → wpAny P md (h ++ t).toArray Q (fuel + t.length) f a w
  | 0, s, f, a, w, hA, hcl, hu, hC, hq => by
    have hs : s = Array.replicate h.length true := by
      apply Array.ext_getElem?
      intro j
      by_cases hj : j < h.length
      · have := unl_zero s.toList j hu (by rw [Array.length_toList, hA.1]; exact hj)
        rw [Array.getElem?_toList] at this
        rw [this]; simp [hj]
      · rw [Array.getElem?_eq_none (by have := hA.1; omega), Array.getElem?_eq_none (by simp; omega)]
    subst hs
    rw [Nat.zero_add]
    exact htail f a w hA hC hq.2
  | fuel + 1, s, f, a, w, hA, hcl, hu, hC, hq => by
    obtain ⟨k, hk, hks⟩ := unl_pos s.toList (by omega)
    rw [Array.length_toList, hA.1] at hk
    rw [Array.getElem?_toList] at hks
    rw [show fuel + 1 + t.length = (fuel + t.length) + 1 by omega]
    refine ⟨fun h0 => absurd h0 (ready_some hA hback ⟨k, hk, hks⟩), fun i hi => ?_⟩
    obtain ⟨hlt, hi'⟩ := ready_head2 hA hback hcl hc hw ⟨k, hk, hks⟩ i hi
    have hsi : s[i]? = some false := by
      have := (mem_ready.1 hi').1
      rw [getD_of] at this
      have hz : i < s.size := by rw [hA.1]; exact hlt
      rw [Array.getElem?_eq_getElem hz] at this ⊢
      simpa using this
    exact wpOp_of_qOp hC (fun a' w' hw' hk' => lift_head2 hg hback hc hw htail fuel _ _ a' w' (hA.set_ hlt) (hcl.set_ hi') (by
      have := unl_set s.toList i (by rw [Array.getElem?_toList]; exact hsi)
      rw [Array.toList_setIfInBounds]; omega) hw' hk') (qOp_of_in hlt hg (hq.2 i hi'))

/-- A region parted at its operation number n: ahead of it all is quiet over the class C, behind it over the class C2. -/
theorem wp_region_split {id : Nat} {Q : Exit → Act → World → Prop} {a : Act} {w : World} (h t : List Oper) (d : Oper) (L : List Nat) (hm : P.follows .mixedOrders = true) (hn1 : Region.noSelect h.toArray = true) (hn : Region.noSelect (h ++ d :: t).toArray = true)
    (hB : lexGo .any h.toArray 0 h = true) (hg : guardsIn h = true) (hc : covers .any h L = true) (hw : waitsL .any h.length L (d :: t) = true)
    (hr : decide (Region.ready .any (h ++ d :: t).toArray (List.replicate h.length true ++ List.replicate (d :: t).length false).toArray = [h.length]) = true)
    (hB2 : lexGo .any (h ++ d :: t).toArray (h.length + 1) t = true) (hC : C w.drew)
    (hq : wpQuiet P h.toArray C (fun a' => ∀ w', C w' → wpOp P (h ++ d :: t).toArray Q h.length (fun a2 w2 => C2 w2 ∧ wpQuiet P (h ++ d :: t).toArray C2 (fun a3 => ∀ w3, C2 w3 → Q .normal a3 w3) t a2) a' w') h a) : (Code.region id (h ++ d :: t).toArray true).wp P Q a w := by
  have hback : ∀ k o, h[k]? = some o → ∀ e ∈ o.after, Region.binds .any e = true → e.on < k := fun k o ho e he hb => by have := go_back h 0 hB k o ho e he hb; omega
  have hQ := wpAnyQ_lex (P := P) (C := C) (md := .any) hn1 h 0 (Array.replicate h.length false) a (by simp) (lexFrom_of_go h 0 _ (fun j => by simp) (by simp) (fun j hj => by simp at hj; simp [Array.getD, hj]) hB) hq
  refine wp_region_any hm ?_
  have := lift_head2 (Q := Q) hg hback hc hw (fun f a' w' hA hC' hq' => by
    have hf : f = (List.replicate h.length true ++ List.replicate (d :: t).length false).toArray := by
      obtain ⟨_, g2, g3, g4⟩ := hA
      apply Array.ext_getElem?
      intro j
      have e : (List.replicate h.length true ++ List.replicate (d :: t).length false).toArray[j]? = (List.replicate h.length true ++ List.replicate (d :: t).length false)[j]? := List.getElem?_toArray ..
      rw [e]
      by_cases hj : j < h.length
      · rw [g3 j hj, List.getElem?_append_left (by simpa using hj)]; simp [hj]
      · rw [List.getElem?_append_right (by simp; omega)]
        by_cases hj2 : j < h.length + (d :: t).length
        · rw [g4 j (by omega) hj2, List.getElem?_replicate, if_pos (by rw [List.length_replicate]; omega)]
        · rw [Array.getElem?_eq_none (by omega), List.getElem?_eq_none (by rw [List.length_replicate, List.length_replicate]; omega)]
    rw [hf, List.length_cons]
    have hr' := of_decide_eq_true hr
    rw [List.length_cons] at hr'
    refine ⟨fun h0 => (by rw [hr'] at h0; cases h0), fun i hi => ?_⟩
    rw [hr'] at hi
    have hip : i = h.length := by simpa using hi
    subst hip
    refine wpOp_mono (fun a2 w2 h2 => ?_) (hq' w' hC')
    refine wpAny_of_quiet (C := C2) (Q := fun a3 => ∀ w3, C2 w3 → Q .normal a3 w3) (fun a3 w3 hw3 h3 => h3 w3 hw3) _ _ _ _ h2.1 ?_
    have hsz : ((List.replicate h.length true ++ List.replicate (t.length + 1) false).toArray.setIfInBounds h.length true).size = (h ++ d :: t).toArray.size := by simp
    refine wpAnyQ_lex hn t (h.length + 1) _ a2 (fun j => ?_) (lexFrom_of_go t (h.length + 1) _ (fun j => ?_) hsz (fun j hj => ?_) hB2) h2.2
    · rw [List.getElem?_toArray, List.getElem?_append_right (by omega), show h.length + 1 + j - h.length = j + 1 by omega, List.getElem?_cons_succ]
    · rw [List.getElem?_toArray, List.getElem?_append_right (by omega), show h.length + 1 + j - h.length = j + 1 by omega, List.getElem?_cons_succ]
    · rw [getD_of, List.setIfInBounds_toArray, List.getElem?_toArray, List.getElem?_set]
      simp only [List.size_toArray, List.length_append, List.length_cons] at hj
      by_cases e : h.length = j
      · subst e; simp
      · rw [if_neg e]
        by_cases e2 : j < h.length
        · rw [List.getElem?_append_left (by simpa using e2)]; simp [e2]; omega
        · rw [List.getElem?_append_right (by simp; omega), List.getElem?_replicate, List.length_replicate, if_pos (by omega)]; simp; omega)
    h.length (Array.replicate h.length false) (Array.replicate (h ++ d :: t).toArray.size false) a w.drew
      ⟨by simp, by simp, fun j hj => by simp [hj, show j < h.length + (t.length + 1) by omega], fun j hj hj2 => by simp at hj2; simp [hj2]⟩
      (fun j o _ hj => by rw [Array.getElem?_replicate] at hj; split at hj <;> simp at hj) (by simpa using unl_all h.length) hC hQ
  simpa using this
/-- The same, the head said by its length. -/
theorem wp_region_splitt {id : Nat} {Q : Exit → Act → World → Prop} {a : Act} {w : World} (l : List Oper) (n : Nat) (L : List Nat) {d : Oper} {t : List Oper} (hd : l.drop n = d :: t) (hln : (l.take n).length = n) (hm : P.follows .mixedOrders = true)
    (hn1 : Region.noSelect (l.take n).toArray = true) (hn : Region.noSelect l.toArray = true)
    (hB : lexGo .any (l.take n).toArray 0 (l.take n) = true) (hg : guardsIn (l.take n) = true) (hc : covers .any (l.take n) L = true) (hw : waitsL .any n L (d :: t) = true)
    (hr : decide (Region.ready .any l.toArray (List.replicate n true ++ List.replicate (d :: t).length false).toArray = [n]) = true)
    (hB2 : lexGo .any l.toArray (n + 1) t = true) (hC : C w.drew)
    (hq : wpQuiet P (l.take n).toArray C (fun a' => ∀ w', C w' → wpOp P l.toArray Q n (fun a2 w2 => C2 w2 ∧ wpQuiet P l.toArray C2 (fun a3 => ∀ w3, C2 w3 → Q .normal a3 w3) t a2) a' w') (l.take n) a) : (Code.region id l.toArray true).wp P Q a w := by
  have e : l.take n ++ d :: t = l := by rw [← hd, List.take_append_drop]
  have := wp_region_split (P := P) (C := C) (C2 := C2) (id := id) (Q := Q) (a := a) (w := w) (l.take n) t d L hm hn1 (by rw [e]; exact hn) hB hg hc (by rw [hln]; exact hw) (by rw [e, hln]; exact hr) (by rw [e, hln]; exact hB2) hC (by rw [e, hln]; exact hq)
  rw [e] at this
  exact this
/-- The call at the parting. -/
theorem wpOp_enter {ops : Array Oper} {Q : Exit → Act → World → Prop} {K : Act → World → Prop} {i : Nat} {o : Oper} {a : Act} {w : World} {f : FuncId} {args : Array Value} {v : Value} {dt : Option Tmp} (ho : ops[i]? = some o) (hdt : o.dst = dt) (hw : Region.wanted o (yielded ops a.tmps) = true)
    (hr : (execOp a.eval o).run P w = .ok (.enter f args) w) (hc : Calls P f args w fun e w'' => e = .returned v ∧ K (a.put dt v) w'') : wpOp P ops Q i K a w := by
  subst hdt
  unfold wpOp
  simp only [ho, hw, if_true]
  left
  unfold Oper.wp
  rw [hr]
  simp only [Oper.upon]
  exact hc.mono fun e w'' ⟨he, h⟩ => by subst he; exact h
end
end Go.Proofs.Ythpagbfabpfngaa
/- A plain law of this prover's own: a region that draws its order: its head, in which all is quiet, is walked once, its tail in each order. No statement about the program. -/
namespace Go.Proofs.Ythpagbfabpfngaa
open Go.RowKit

section
variable {P : Program} {C : World → Prop}
theorem wp_region_head {id : Nat} {Q : Exit → Act → World → Prop} {a : Act} {w : World} (h t : List Oper) (L : List Nat) (hm : P.follows .mixedOrders = true) (hn1 : Region.noSelect h.toArray = true)
    (hB : lexGo .any h.toArray 0 h = true) (hg : guardsIn h = true) (hc : covers .any h L = true) (hw : waitsL .any h.length L t = true) (hC : C w.drew)
    (hq : wpQuiet P h.toArray C (fun a' => ∀ w', C w' → wpAny P .any (h ++ t).toArray Q t.length (List.replicate h.length true ++ List.replicate t.length false).toArray a' w') h a) : (Code.region id (h ++ t).toArray true).wp P Q a w := by
  have hback : ∀ k o, h[k]? = some o → ∀ e ∈ o.after, Region.binds .any e = true → e.on < k := fun k o ho e he hb => by have := go_back h 0 hB k o ho e he hb; omega
  have hQ := wpAnyQ_lex (P := P) (C := C) (md := .any) hn1 h 0 (Array.replicate h.length false) a (by simp) (lexFrom_of_go h 0 _ (fun j => by simp) (by simp) (fun j hj => by simp at hj; simp [Array.getD, hj]) hB) hq
  refine wp_region_any hm ?_
  have := lift_head2 (Q := Q) hg hback hc hw (fun f a' w' hA hC' hq' => by
    have hf : f = (List.replicate h.length true ++ List.replicate t.length false).toArray := by
      obtain ⟨_, g2, g3, g4⟩ := hA
      apply Array.ext_getElem?
      intro j
      have e : (List.replicate h.length true ++ List.replicate t.length false).toArray[j]? = (List.replicate h.length true ++ List.replicate t.length false)[j]? := List.getElem?_toArray ..
      rw [e]
      by_cases hj : j < h.length
      · rw [g3 j hj, List.getElem?_append_left (by simpa using hj)]; simp [hj]
      · rw [List.getElem?_append_right (by simp; omega)]
        by_cases hj2 : j < h.length + t.length
        · rw [g4 j (by omega) hj2, List.getElem?_replicate, if_pos (by rw [List.length_replicate]; omega)]
        · rw [Array.getElem?_eq_none (by omega), List.getElem?_eq_none (by rw [List.length_replicate, List.length_replicate]; omega)]
    rw [hf]
    exact hq' w' hC')
    h.length (Array.replicate h.length false) (Array.replicate (h ++ t).toArray.size false) a w.drew
      ⟨by simp, by simp, fun j hj => by simp [hj, show j < h.length + t.length by omega], fun j hj hj2 => by simp [hj2]⟩
      (fun j o _ hj => by rw [Array.getElem?_replicate] at hj; split at hj <;> simp at hj) (by simpa using unl_all h.length) hC hQ
  simpa using this
/-- The same, the head said by its length. -/
theorem wp_region_headt {id : Nat} {Q : Exit → Act → World → Prop} {a : Act} {w : World} (l : List Oper) (n m : Nat) (L : List Nat) (hln : (l.take n).length = n) (hdn : (l.drop n).length = m) (hm : P.follows .mixedOrders = true)
    (hn1 : Region.noSelect (l.take n).toArray = true)
    (hB : lexGo .any (l.take n).toArray 0 (l.take n) = true) (hg : guardsIn (l.take n) = true) (hc : covers .any (l.take n) L = true) (hw : waitsL .any n L (l.drop n) = true) (hC : C w.drew)
    (hq : wpQuiet P (l.take n).toArray C (fun a' => ∀ w', C w' → wpAny P .any l.toArray Q m (List.replicate n true ++ List.replicate m false).toArray a' w') (l.take n) a) : (Code.region id l.toArray true).wp P Q a w := by
  have e : l.take n ++ l.drop n = l := List.take_append_drop n l
  have := wp_region_head (P := P) (C := C) (id := id) (Q := Q) (a := a) (w := w) (l.take n) (l.drop n) L hm hn1 hB hg hc (by rw [hln]; exact hw) hC (by rw [e, hln, hdn]; exact hq)
  rw [e] at this
  exact this
end
end Go.Proofs.Ythpagbfabpfngaa
