/- Plain lemmas of this prover's own: a head in the order of its text whose last operation floats: the first operation of the tail does not wait for it. No statement about the program. -/
import Derived.Test.YtimaihdlaaonbaaDoorTail
namespace Go.Proofs.YtimaihdlaaonbaaDoor
open Go.RowKit

section
variable {P : Program} {C : World → Prop} {md : Region.Mode}
theorem put_inv (a : Act) (d : Option Nat) (v : Value) : ∃ u, a = (a.put d v).put d u := by
  cases d with
  | none => exact ⟨v, rfl⟩
  | some d =>
    refine ⟨a.tmps.getD d v, ?_⟩
    cases a with
    | mk tmps defers =>
      simp only [Act.put]
      congr 1
      apply Array.ext_getElem?
      intro j
      simp only [Array.getElem?_setIfInBounds, Array.size_setIfInBounds, Array.getD_eq_getD_getElem?]
      by_cases e : d = j
      · subst e
        by_cases hj : d < tmps.size
        · simp [hj]
        · simp [hj]
      · simp [e]
theorem ready_head1 {h t : List Oper} {s f : Array Bool} (hA : Agr h.length t.length s f) (hback : ∀ k o, h[k]? = some o → ∀ e ∈ o.after, Region.binds md e = true → e.on < k)
    {i : Nat} (hlt : i < h.length) (hi : i ∈ Region.ready md (h ++ t).toArray f) : i ∈ Region.ready md h.toArray s := by
  obtain ⟨h1, h2, h3, h4⟩ := hA
  rw [mem_ready] at hi
  obtain ⟨g0, o, ho, hall⟩ := hi
  rw [List.getElem?_toArray] at ho
  rw [List.getElem?_append_left hlt] at ho
  rw [mem_ready]
  refine ⟨by rw [getD_of] at g0 ⊢; rw [← h3 i hlt]; exact g0, o, by rw [List.getElem?_toArray]; exact ho, fun e he hb => ?_⟩
  have hk := hback i o ho e he hb
  have := hall e he hb
  rw [getD_of] at this ⊢
  rw [← h3 e.on (by omega)]; exact this
/-- Whoever waits for an operation that has not come up may not come up. -/
theorem not_ready_tail {h t : List Oper} {s f : Array Bool} (hA : Agr h.length t.length s f) {k : Nat} (hk : k < h.length) (hs : s[k]? = some false) {i : Nat} {o : Oper} (ho : (h ++ t)[i]? = some o)
    (hwait : ∃ e ∈ o.after, Region.binds md e = true ∧ e.on = k) : i ∉ Region.ready md (h ++ t).toArray f := by
  intro hi
  obtain ⟨h1, h2, h3, h4⟩ := hA
  rw [mem_ready] at hi
  obtain ⟨g0, o', ho', hall⟩ := hi
  rw [List.getElem?_toArray, ho] at ho'
  cases ho'
  obtain ⟨e, he, hb, rfl⟩ := hwait
  have := hall e he hb
  rw [getD_of, h3 e.on hk, hs] at this
  cases this
theorem lift_float {h t' : List Oper} {t0 : Oper} {p : Nat} {Q : Exit → Act → World → Prop} {Qf : Act → Prop} (hp : h.length = p + 1) (hg : ∀ o ∈ h, o.guard = none) (hback : ∀ k o, h[k]? = some o → ∀ e ∈ o.after, Region.binds md e = true → e.on < k)
    (hw0 : ∀ k, k < p → ∃ e ∈ t0.after, Region.binds md e = true ∧ e.on = k) (hwait : ∀ o ∈ t', ∀ k, k < h.length → ∃ e ∈ o.after, Region.binds md e = true ∧ e.on = k)
    (htail : ∀ f a w, Agr h.length (t0 :: t').length (Array.replicate h.length true) f → C w → Qf a → wpAny P md (h ++ t0 :: t').toArray Q (t0 :: t').length f a w)
    (hside : ∀ s f a w, Agr h.length (t0 :: t').length s f → (∀ k, k < p → s[k]? = some true) → s[p]? = some false → C w → qOp P h.toArray C p Qf a →
      wpOp P (h ++ t0 :: t').toArray Q h.length (fun a' w' => wpAny P md (h ++ t0 :: t').toArray Q (t0 :: t').length (f.setIfInBounds h.length true) a' w') a w) :
    ∀ (fuel : Nat) (s f : Array Bool) (a : Act) (w : World), Agr h.length (t0 :: t').length s f → unl s.toList = fuel → C w → wpAnyQ P md h.toArray C Qf fuel s a → wpAny P md (h ++ t0 :: t').toArray Q (fuel + (t0 :: t').length) f a w
  | 0, s, f, a, w, hA, hu, hC, hq => by
    have hs : s = Array.replicate h.length true := by
      apply Array.ext_getElem?
      intro j
      by_cases hj : j < h.length
      · have := unl_zero s.toList j hu (by rw [Array.length_toList, hA.1]; exact hj)
        rw [Array.getElem?_toList] at this
        rw [this]; simp [hj]
      · rw [Array.getElem?_eq_none (by have := hA.1; omega), Array.getElem?_eq_none (by simp; omega)]
    subst hs
    rw [Nat.zero_add]
    exact htail f a w hA hC hq.2
  | fuel + 1, s, f, a, w, hA, hu, hC, hq => by
    obtain ⟨k, hk, hks⟩ := unl_pos s.toList (by omega)
    rw [Array.length_toList, hA.1] at hk
    rw [Array.getElem?_toList] at hks
    rw [show fuel + 1 + (t0 :: t').length = (fuel + (t0 :: t').length) + 1 by omega]
    refine ⟨fun h0 => absurd h0 (ready_some hA hback ⟨k, hk, hks⟩), fun i hi => ?_⟩
    by_cases hlt : i < h.length
    · have hi' := ready_head1 hA hback hlt hi
      have hsi : s[i]? = some false := by
        have := (mem_ready.1 hi').1
        rw [getD_of] at this
        have hz : i < s.size := by rw [hA.1]; exact hlt
        rw [Array.getElem?_eq_getElem hz] at this ⊢
        simpa using this
      exact wpOp_of_qOp hC (fun a' w' hw' hk' => lift_float hp hg hback hw0 hwait htail hside fuel _ _ a' w' (hA.set_ hlt) (by
        have := unl_set s.toList i (by rw [Array.getElem?_toList]; exact hsi)
        rw [Array.toList_setIfInBounds]; omega) hw' hk') (qOp_of_head hlt hg (hq.2 i hi'))
    · have hall : ∀ k, k < p → s[k]? = some true := fun k' hk' => by
        cases hb : s[k']? with
        | none => have := Array.getElem?_eq_none_iff.1 hb; have := hA.1; omega
        | some b =>
          cases b with
          | true => rfl
          | false =>
            exfalso
            have hm := mem_ready.1 hi
            obtain ⟨_, o, ho, _⟩ := hm
            rw [List.getElem?_toArray] at ho
            refine not_ready_tail hA (show k' < h.length by omega) hb ho ?_ hi
            rw [List.getElem?_append_right (by omega)] at ho
            have hmem := List.mem_of_getElem? ho
            rcases List.mem_cons.1 hmem with e | e
            · subst e; exact hw0 k' hk'
            · exact hwait o e k' (by omega)
      have hkp : k = p := by
        by_cases e : k < p
        · rw [hall k e] at hks; cases hks
        · omega
      subst hkp
      have hin : i = h.length := by
        obtain ⟨_, o, ho, _⟩ := mem_ready.1 hi
        rw [List.getElem?_toArray] at ho
        by_cases e : i = h.length
        · exact e
        · exfalso
          refine not_ready_tail hA hk hks ho ?_ hi
          rw [List.getElem?_append_right (by omega), show i - h.length = (i - h.length - 1) + 1 by omega, List.getElem?_cons_succ] at ho
          exact hwait o (List.mem_of_getElem? ho) k hk
      subst hin
      have hfuel : fuel = 0 := by
        have h1 := unl_set s.toList k (by rw [Array.getElem?_toList]; exact hks)
        have h2 : s.toList.set k true = List.replicate h.length true := by
          apply List.ext_getElem?
          intro j
          rw [List.getElem?_set, List.getElem?_replicate, Array.getElem?_toList, Array.length_toList, hA.1]
          by_cases e : k = j
          · subst e; simp [hk]
          · by_cases e2 : j < k
            · simp [e, hall j e2, show j < h.length by omega]
            · simp [e, show ¬ j < h.length by omega, Array.getElem?_eq_none (show s.size ≤ j by have := hA.1; omega)]
        have h3 : ∀ n, unl (List.replicate n true) = 0 := fun n => by induction n with
          | zero => rfl
          | succ n ih => rw [List.replicate_succ, unl, ih]; rfl
        rw [h2, h3] at h1
        omega
      subst hfuel
      have hrd : k ∈ Region.ready md h.toArray s := by
        rw [mem_ready]
        refine ⟨by rw [getD_of, hks]; rfl, h[k], by simp [hk], fun e he hb => ?_⟩
        have := hback k h[k] (by simp [hk]) e he hb
        rw [getD_of, hall e.on this]; rfl
      have hqk := hq.2 k hrd
      rw [Nat.zero_add]
      exact hside s f a w hA hall hks hC (qOp_mono (fun a' h' => h'.2) hqk)
theorem wp_region_float {id : Nat} {Q : Exit → Act → World → Prop} {a : Act} {w : World} (h t' : List Oper) (t0 fo : Oper) (p : Nat) (hp : h.length = p + 1) (hfo : h[p]? = some fo) (hm : P.follows .mixedOrders = true) (hn : Region.noSelect h.toArray = true) (hB : lexGo .any h.toArray 0 h = true)
    (hg : noGuards h = true) (hw0 : waitsAll .any p [t0] = true) (hw : waitsAll .any h.length t' = true)
    (hs : Region.seqB .any (h ++ t0 :: t').toArray (t0 :: t').length h.length (List.replicate h.length true ++ List.replicate (t0 :: t').length false).toArray = true)
    (hs2 : decide (Region.ready .any (h ++ t0 :: t').toArray (List.replicate p true ++ false :: true :: List.replicate t'.length false).toArray = [p]) = true)
    (hs3 : Region.seqB .any (h ++ t0 :: t').toArray t'.length (h.length + 1) (List.replicate (h.length + 1) true ++ List.replicate t'.length false).toArray = true) (hC : C w.drew)
    (hq : wpQuiet P h.toArray C (fun a' => (∀ w', C w' → wpList P (h ++ t0 :: t').toArray Q (t0 :: t') a' w') ∧ ∀ u w', C w' → wpList P (h ++ t0 :: t').toArray Q (t0 :: fo :: t') (a'.put fo.dst u) w') h a) : (Code.region id (h ++ t0 :: t').toArray true).wp P Q a w := by
  have hg' : ∀ o ∈ h, o.guard = none := fun o ho => by have := List.all_eq_true.1 hg o ho; simpa using this
  have hback : ∀ k o, h[k]? = some o → ∀ e ∈ o.after, Region.binds .any e = true → e.on < k := fun k o ho e he hb => by have := go_back h 0 hB k o ho e he hb; omega
  have wt : ∀ (n : Nat) (t : List Oper), waitsAll .any n t = true → ∀ o ∈ t, ∀ k, k < n → ∃ e ∈ o.after, Region.binds .any e = true ∧ e.on = k := fun n t hw o ho k hk => by
    have h1 := List.all_eq_true.1 (List.all_eq_true.1 hw o ho) k (List.mem_range.2 hk)
    rw [List.any_eq_true] at h1
    obtain ⟨e, he, hb⟩ := h1
    rw [Bool.and_eq_true] at hb
    exact ⟨e, by simpa using he, hb.1, by simpa using hb.2⟩
  have hQ := wpAnyQ_lex (P := P) (C := C) (md := .any) hn h 0 (Array.replicate h.length false) a (by simp) (lexFrom_of_go h 0 _ (fun j => by simp) (by simp) (fun j hj => by simp at hj; simp [Array.getD, hj]) hB) hq
  refine wp_region_any hm ?_
  have := lift_float (Q := Q) hp hg' hback (fun k hk => wt p [t0] hw0 t0 (by simp) k hk) (wt h.length t' hw) (fun f a' w' hA hC' hq' => by
    have hf : f = (List.replicate h.length true ++ List.replicate (t0 :: t').length false).toArray := by
      obtain ⟨_, g2, g3, g4⟩ := hA
      apply Array.ext_getElem?
      intro j
      have e : (List.replicate h.length true ++ List.replicate (t0 :: t').length false).toArray[j]? = (List.replicate h.length true ++ List.replicate (t0 :: t').length false)[j]? := List.getElem?_toArray ..
      rw [e]
      by_cases hj : j < h.length
      · rw [g3 j hj, List.getElem?_append_left (by simpa using hj)]; simp [hj]
      · rw [List.getElem?_append_right (by simp; omega)]
        by_cases hj2 : j < h.length + (t0 :: t').length
        · rw [g4 j (by omega) hj2, List.getElem?_replicate, if_pos (by rw [List.length_replicate]; omega)]
        · rw [Array.getElem?_eq_none (by omega), List.getElem?_eq_none (by rw [List.length_replicate, List.length_replicate]; omega)]
    rw [hf]
    exact wpAny_of_seq (t0 :: t') h.length _ a' w' (fun j => by rw [List.getElem?_toArray, List.getElem?_append_right (by omega)]; congr 1; omega) hs (hq'.1 w' hC'))
    (fun s f a' w' hA hall hsp hC' hqp => by
      have hl0 : (h ++ t0 :: t').toArray[h.length]? = some t0 := by simp
      have hlp : (h ++ t0 :: t').toArray[p]? = some fo := by rw [List.getElem?_toArray, List.getElem?_append_left (by omega)]; exact hfo
      have hlist : wpList P (h ++ t0 :: t').toArray Q (t0 :: fo :: t') a' w' := by
        unfold qOp at hqp
        have hx : h.toArray[p]? = some fo := by rw [List.getElem?_toArray]; exact hfo
        rw [hx] at hqp
        have hgf : fo.guard = none := hg' fo (List.mem_of_getElem? hfo)
        have wnt : Region.wanted fo (yielded h.toArray a'.tmps) = true := by simp [Region.wanted, hgf]
        simp only [wnt, if_true] at hqp
        obtain ⟨v, _, hk⟩ := hqp
        obtain ⟨u, hu⟩ := put_inv a' fo.dst v
        rw [hu]
        exact hk.2 u w' hC'
      have hw1 : wpOp P (h ++ t0 :: t').toArray Q h.length (wpList P (h ++ t0 :: t').toArray Q (fo :: t')) a' w' := by unfold wpOp; simp only [hl0]; exact hlist
      refine wpOp_mono (fun a2 w2 h2 => ?_) hw1
      have hf : f.setIfInBounds h.length true = (List.replicate p true ++ false :: true :: List.replicate t'.length false).toArray := by
        obtain ⟨g1, g2, g3, g4⟩ := hA
        apply Array.ext_getElem?
        intro j
        have e : (List.replicate p true ++ false :: true :: List.replicate t'.length false).toArray[j]? = (List.replicate p true ++ false :: true :: List.replicate t'.length false)[j]? := List.getElem?_toArray ..
        rw [e, Array.getElem?_setIfInBounds, g2]
        rw [List.length_cons] at g2 g4
        rcases Nat.lt_trichotomy j p with hj | hj | hj
        · rw [if_neg (by omega), g3 j (by omega), hall j hj, List.getElem?_append_left (by simpa using hj)]; simp [hj]
        · subst hj
          rw [if_neg (by omega), g3 j (by omega), hsp, List.getElem?_append_right (by simp)]; simp
        · rw [List.getElem?_append_right (by simp; omega), List.length_replicate]
          by_cases hj1 : j = p + 1
          · subst hj1
            rw [hp, if_pos rfl, if_pos (by simp)]; simp [show p + 1 - p = 1 by omega]
          · rw [if_neg (by omega), show j - p = (j - p - 2) + 1 + 1 by omega, List.getElem?_cons_succ, List.getElem?_cons_succ]
            by_cases hj2 : j < h.length + (t'.length + 1)
            · rw [g4 j (by omega) hj2, List.getElem?_replicate, if_pos (by omega)]
            · rw [Array.getElem?_eq_none (by omega), List.getElem?_eq_none (by rw [List.length_replicate]; omega)]
      rw [hf, List.length_cons]
      have hr := of_decide_eq_true hs2
      refine ⟨fun h0 => (by rw [hr] at h0; cases h0), fun i hi => ?_⟩
      rw [hr] at hi
      have hip : i = p := by simpa using hi
      subst hip
      have hw2 : wpOp P (h ++ t0 :: t').toArray Q i (wpList P (h ++ t0 :: t').toArray Q t') a2 w2 := by unfold wpOp; simp only [hlp]; exact h2
      refine wpOp_mono (fun a3 w3 h3 => ?_) hw2
      have hf3 : (List.replicate i true ++ false :: true :: List.replicate t'.length false).toArray.setIfInBounds i true = (List.replicate (h.length + 1) true ++ List.replicate t'.length false).toArray := by
        rw [List.setIfInBounds_toArray, List.set_append_right _ _ (by simp), List.length_replicate, Nat.sub_self, List.set_cons_zero, hp, List.replicate_succ', List.replicate_succ']
        simp
      rw [hf3]
      exact wpAny_of_seq t' (h.length + 1) _ a3 w3 (fun j => by rw [List.getElem?_toArray, List.getElem?_append_right (by omega), show h.length + 1 + j - h.length = j + 1 by omega, List.getElem?_cons_succ]) hs3 h3)
    h.length (Array.replicate h.length false) (Array.replicate (h ++ t0 :: t').toArray.size false) a w.drew
      ⟨by simp, by simp, fun j hj => by simp [hj, show j < h.length + (t'.length + 1) by omega], fun j hj hj2 => by simp at hj2; simp [hj2]⟩ (by simpa using unl_all h.length) hC hQ
  simpa using this
/-- The same, the head said by its length. -/
theorem wp_region_floatt {id : Nat} {Q : Exit → Act → World → Prop} {a : Act} {w : World} (l : List Oper) (p : Nat) {t' : List Oper} {t0 fo : Oper} (hd : l.drop (p + 1) = t0 :: t') (hfo : (l.take (p + 1))[p]? = some fo) (hp : (l.take (p + 1)).length = p + 1) (hm : P.follows .mixedOrders = true)
    (hn : Region.noSelect (l.take (p + 1)).toArray = true) (hB : lexGo .any (l.take (p + 1)).toArray 0 (l.take (p + 1)) = true)
    (hg : noGuards (l.take (p + 1)) = true) (hw0 : waitsAll .any p [t0] = true) (hw : waitsAll .any (p + 1) t' = true)
    (hs : Region.seqB .any l.toArray (t0 :: t').length (p + 1) (List.replicate (p + 1) true ++ List.replicate (t0 :: t').length false).toArray = true)
    (hs2 : decide (Region.ready .any l.toArray (List.replicate p true ++ false :: true :: List.replicate t'.length false).toArray = [p]) = true)
    (hs3 : Region.seqB .any l.toArray t'.length (p + 1 + 1) (List.replicate (p + 1 + 1) true ++ List.replicate t'.length false).toArray = true) (hC : C w.drew)
    (hq : wpQuiet P (l.take (p + 1)).toArray C (fun a' => (∀ w', C w' → wpList P l.toArray Q (t0 :: t') a' w') ∧ ∀ u w', C w' → wpList P l.toArray Q (t0 :: fo :: t') (a'.put fo.dst u) w') (l.take (p + 1)) a) : (Code.region id l.toArray true).wp P Q a w := by
  have e : l.take (p + 1) ++ t0 :: t' = l := by rw [← hd, List.take_append_drop]
  have := wp_region_float (P := P) (C := C) (id := id) (Q := Q) (a := a) (w := w) (l.take (p + 1)) t' t0 fo p hp hfo hm hn hB hg hw0 (by rw [hp]; exact hw) (by rw [e, hp]; exact hs) (by rw [e]; exact hs2) (by rw [e, hp]; exact hs3) hC (by rw [e]; exact hq)
  rw [e] at this
  exact this
end
end Go.Proofs.YtimaihdlaaonbaaDoor
