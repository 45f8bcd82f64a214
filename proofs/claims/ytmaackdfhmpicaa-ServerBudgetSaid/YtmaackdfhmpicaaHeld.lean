/- Plain lemmas of this prover's own: a region that draws its order, walked once in the order of its text, over a class of worlds that each operation keeps. No statement about the program. -/
import Derived.BigQuiet
import Derived.Deep.QuietTactic
import Derived.WalkKit
import Derived.ProofKit
namespace Go.Proofs.Ytmaackdfhmpicaa
open Go.RowKit

/-- May these operations, which stand from place k on, be taken in the order of the text? -/
def lexGo (md : Region.Mode) (ops : Array Oper) : Nat → List Oper → Bool
  | _, [] => true
  | k, o :: r => (o.after.toList.all fun e => !Region.binds md e || Nat.blt e.on k) && r.all (fun oj => (oj.after.toList.any fun e => Region.binds md e && Nat.beq e.on k) || o.apart ops oj) && lexGo md ops (k + 1) r

theorem lexFrom_of_go {md : Region.Mode} {ops : Array Oper} : ∀ (l : List Oper) (k : Nat) (listed : Array Bool), (∀ j, l[j]? = ops[k + j]?) → listed.size = ops.size →
    (∀ j, j < ops.size → listed.getD j true = decide (j < k)) → lexGo md ops k l = true → Region.lexFrom md ops l.length k listed = true
  | [], k, listed, hl, _, hd, _ => by
    have hk : ops.size ≤ k := by
      have := hl 0
      simp at this
      exact this
    unfold Region.lexFrom Region.ready
    simp only [List.isEmpty_iff, List.length_nil, List.filter_eq_nil_iff, List.mem_range]
    intro j hj
    rw [hd j hj, show decide (j < k) = true by simp; omega]
    simp
  | o :: r, k, listed, hl, hs, hd, h => by
    have h0 : ops[k]? = some o := by simpa using (hl 0).symm
    have hk : k < ops.size := (Array.getElem?_eq_some_iff.1 h0).1
    unfold lexGo at h
    simp only [Bool.and_eq_true] at h
    obtain ⟨⟨h1, h2⟩, h3⟩ := h
    simp only [List.length_cons, Region.lexFrom, Bool.and_eq_true]
    refine ⟨⟨?_, ?_⟩, ?_⟩
    · unfold Region.ready
      rw [List.contains_iff_mem, List.mem_filter]
      refine ⟨List.mem_range.2 hk, ?_⟩
      rw [hd k hk, h0]
      simp only [Nat.lt_irrefl, decide_false, Bool.not_false, Bool.true_and, Option.map_some, Option.getD_some]
      rw [← Array.all_toList, List.all_eq_true]
      intro e he
      have := List.all_eq_true.1 h1 e he
      simp only [Bool.or_eq_true] at this ⊢
      rcases this with h | h
      · exact .inl h
      · have hlt : e.on < k := by simpa using h
        have := hd e.on (by omega)
        right
        rw [show decide (e.on < k) = true by simpa using hlt] at this
        have hlt2 : e.on < listed.size := by omega
        simpa [Array.getD, hlt2] using this
    · unfold Region.free
      rw [h0]
      simp only [List.all_eq_true, List.mem_range]
      intro j hj
      rw [hd j hj]
      rcases Nat.lt_trichotomy j k with hjk | rfl | hjk
      · simp [hjk]
      · simp
      · have hj2 : r[j - k - 1]? = ops[j]? := by
          have := hl (j - k - 1 + 1)
          rw [List.getElem?_cons_succ] at this
          rw [this]; congr 1; omega
        cases hoj : ops[j]? with
        | none => simp
        | some oj =>
          rw [hoj] at hj2
          have hm : oj ∈ r := List.mem_of_getElem? hj2
          have := List.all_eq_true.1 h2 oj hm
          simp only [Bool.or_eq_true] at this ⊢
          right
          rcases this with h | h
          · left
            rw [List.any_eq_true] at h
            obtain ⟨e, he, hb⟩ := h
            rw [Array.any_eq_true']
            refine ⟨e, by simpa using he, ?_⟩
            simp only [Bool.and_eq_true] at hb ⊢
            exact ⟨hb.1, by simpa using hb.2⟩
          · exact .inr h
    · refine lexFrom_of_go r (k + 1) _ (fun j => ?_) (by simpa using hs) (fun j hj => ?_) h3
      · have := hl (j + 1)
        rw [List.getElem?_cons_succ] at this
        rw [this]; congr 1; omega
      · have hjs : j < listed.size := by omega
        have := hd j hj
        by_cases e : j = k
        · subst e; simp [Array.getD, hjs]
        · have hlt : (j < k + 1) ↔ (j < k) := by omega
          rw [show decide (j < k + 1) = decide (j < k) by simp [hlt], ← this]
          have e' : ¬ k = j := fun h => e h.symm
          simp [Array.getD, hjs, e']

theorem lexB_of_go {md : Region.Mode} {l : List Oper} (hn : Region.noSelect l.toArray = true) (h : lexGo md l.toArray 0 l = true) : Region.lexB md l.toArray = true := by
  unfold Region.lexB
  rw [hn, Bool.true_and]
  exact lexFrom_of_go l 0 _ (fun j => by simp) (by simp) (fun j hj => by simp at hj; simp [Array.getD, hj]) h

section
variable {P : Program} {C : World → Prop}
theorem wp_region_class {id : Nat} {Q : Exit → Act → World → Prop} {a : Act} {w : World} {l : List Oper} (hm : P.follows .mixedOrders = true) (hn : Region.noSelect l.toArray = true) (hB : lexGo .any l.toArray 0 l = true) (hC : C w.drew)
    (h : wpQuiet P l.toArray C (fun a' => ∀ w', C w' → Q .normal a' w') l a) : (Code.region id l.toArray true).wp P Q a w :=
  wp_region_quiet (C := C) hm (lexB_of_go hn hB) hC (by simpa using h)
theorem quiet_run {o : Oper} {a : Act} {K : Act → Prop} {v : Value} (h : ∀ w, C w → (execOp a.eval o).run P w = .ok (.value v) w) (hk : K (a.put o.dst v)) : o.quiet P a C K :=
  ⟨v, fun w hw => by unfold Oper.quietAt; rw [h w hw]; exact ⟨rfl, rfl⟩, hk⟩
theorem quiet_enter {o : Oper} {a : Act} {K : Act → Prop} {v : Value} {f : FuncId} {args : Array Value} (h : ∀ w, (execOp a.eval o).run P w = .ok (.enter f args) w)
    (hc : ∀ w, C w → Calls P f args w fun e w'' => e = .returned v ∧ C w'') (hk : K (a.put o.dst v)) : o.quiet P a C K :=
  ⟨v, fun w hw => by unfold Oper.quietAt; rw [h w]; exact ⟨rfl, hc w hw⟩, hk⟩
end
end Go.Proofs.Ytmaackdfhmpicaa
