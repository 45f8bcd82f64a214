/- A plain law of this prover's own: a region that draws its order, walked by a condition on what has come up, on the activation and on the world, which each operation keeps whichever came ahead of it. No statement about the program. -/
import Derived.OrdersHeld
import Derived.Deep.RegionHeld
import Derived.WalkKit
import Derived.ProofKit
namespace Go.Proofs.YtbdcjfkplopbiaaDoor
open Go.RowKit

section
variable {P : Program} {ops : Array Oper} {Q : Exit → Act → World → Prop} {md : Region.Mode}
/-- What has come up, and one more. -/
def putD (d : Nat → Bool) (i : Nat) : Nat → Bool := fun j => if j = i then true else d j
def dOf (listed : Array Bool) : Nat → Bool := fun j => listed.getD j false
theorem dOf_set (listed : Array Bool) (i : Nat) (hi : i < listed.size) : dOf (listed.setIfInBounds i true) = putD (dOf listed) i := by
  funext j
  unfold dOf putD
  by_cases e : j = i
  · subst e; simp [hi]
  · rw [if_neg e, getD_set_ne false (fun h => e h.symm)]
/-- Does each operation wait for earlier ones alone? -/
def aheadB (md : Region.Mode) (ops : Array Oper) : Bool := (List.range ops.size).all fun j => match ops[j]? with
  | some o => o.after.toList.all fun e => !Region.binds md e || Nat.blt e.on j
  | none => true
theorem ahead_spec (h : aheadB md ops = true) {j : Nat} {o : Oper} (ho : ops[j]? = some o) : ∀ e ∈ o.after, Region.binds md e = true → e.on < j := by
  intro e he hb
  have hj := (Array.getElem?_eq_some_iff.1 ho).1
  unfold aheadB at h
  rw [List.all_eq_true] at h
  have := h j (List.mem_range.2 hj)
  rw [ho] at this
  simp only [List.all_eq_true] at this
  have := this e (by simpa using he)
  rw [hb] at this
  simpa using this
theorem all_up (h : aheadB md ops = true) {listed : Array Bool} (hs : listed.size = ops.size) (hr : Region.ready md ops listed = []) : ∀ j, j < ops.size → dOf listed j = true := by
  intro j
  induction j using Nat.strongRecOn with
  | _ j ih =>
    intro hj
    cases hd : dOf listed j
    · have hm : j ∈ Region.ready md ops listed := by
        refine mem_ready.2 ⟨?_, ops[j], Array.getElem?_eq_getElem hj, fun e he hb => ?_⟩
        · unfold dOf at hd
          have : j < listed.size := by omega
          simpa [this] using hd
        · have := ahead_spec h (Array.getElem?_eq_getElem hj) e he hb
          exact ih e.on this (by omega)
      rw [hr] at hm; cases hm
    · rfl
theorem count_set : ∀ (l : List Bool) (i : Nat), l[i]? = some false → (l.set i true).count false + 1 = l.count false
  | [], i, h => by simp at h
  | a :: l, 0, h => by simp at h; subst h; simp
  | a :: l, i + 1, h => by
    have := count_set l i (by simpa using h)
    simp only [List.set_cons_succ, List.count_cons]
    omega
theorem wpAny_inv (I : (Nat → Bool) → Act → World → Prop) (hb : aheadB md ops = true)
    (hdone : ∀ d a w, (∀ j, j < ops.size → d j = true) → I d a w → Q .normal a w)
    (hstep : ∀ i o d a w, ops[i]? = some o → I d a w → d i = false → (∀ e ∈ o.after, Region.binds md e = true → d e.on = true) →
      ∀ K' : Act → World → Prop, Shut (∀ a w, I (putD d i) a w → K' a w) → if Region.wanted o (yielded ops a.tmps) = true then Oper.wp P o a w K' Q else K' (a.put o.dst undef) w) :
    ∀ (fuel : Nat) (listed : Array Bool) (a : Act) (w : World), listed.size = ops.size → listed.toList.count false = fuel → I (dOf listed) a w → wpAny P md ops Q fuel listed a w := by
  intro fuel
  induction fuel with
  | zero =>
    intro listed a w hs hc hI
    have hr : Region.ready md ops listed = [] := by
      rw [List.eq_nil_iff_forall_not_mem]
      intro j hj
      obtain ⟨h1, o, ho, _⟩ := mem_ready.1 hj
      have hjs : j < listed.size := by rw [hs]; exact (Array.getElem?_eq_some_iff.1 ho).1
      have h2 : listed[j] = false := by simpa [hjs] using h1
      have : false ∈ listed.toList := by rw [← h2]; simp
      have := List.count_pos_iff.2 this
      omega
    exact ⟨hr, hdone _ a w (all_up hb hs hr) hI⟩
  | succ fuel ih =>
    intro listed a w hs hc hI
    refine ⟨fun hr => hdone _ a w (all_up hb hs hr) hI, fun i hi => ?_⟩
    obtain ⟨h1, o, ho, hall⟩ := mem_ready.1 hi
    have his : i < listed.size := by rw [hs]; exact (Array.getElem?_eq_some_iff.1 ho).1
    refine wpOp_step ho fun K' hK => hstep i o _ a w ho hI (by unfold dOf; simpa [his] using h1) hall K' (fun a w hI' => hK a w (ih _ a w (by simpa using hs) ?_ (by rw [dOf_set _ _ his]; exact hI')))
    have h2 : listed.toList[i]? = some false := by
      have : listed[i] = false := by simpa [his] using h1
      simp [his, this]
    have := count_set listed.toList i h2
    rw [Array.toList_setIfInBounds]
    omega
theorem wp_region_inv {id : Nat} {a : Act} {w : World} (I : (Nat → Bool) → Act → World → Prop) (hm : P.follows .mixedOrders = true) (hb : aheadB .any ops = true) (h0 : I (fun _ => false) a w.drew)
    (hdone : ∀ d a w, (∀ j, j < ops.size → d j = true) → I d a w → Q .normal a w)
    (hstep : ∀ i o d a w, ops[i]? = some o → I d a w → d i = false → (∀ e ∈ o.after, Region.binds .any e = true → d e.on = true) →
      ∀ K' : Act → World → Prop, Shut (∀ a w, I (putD d i) a w → K' a w) → if Region.wanted o (yielded ops a.tmps) = true then Oper.wp P o a w K' Q else K' (a.put o.dst undef) w) :
    (Code.region id ops true).wp P Q a w := by
  refine wp_region_any hm (wpAny_inv I hb hdone hstep ops.size _ a w.drew (by simp) (by simp) ?_)
  have : dOf (Array.replicate ops.size false) = fun _ => false := by
    funext j
    unfold dOf
    by_cases e : j < ops.size <;> simp [e]
  rw [this]
  exact h0
end
end Go.Proofs.YtbdcjfkplopbiaaDoor
