/- Plain lemmas of this prover's own: a loop over a function that collects what it goes through into a row that a variable names: what it owns, what it keeps. No statement about the program. -/
import Derived.Test.YtcipkkeegbfaeaaDoorFoot
import Derived.Test.YtcipkkeegbfaeaaDoorOwn
import Derived.Test.YtcipkkeegbfaeaaDoorBox
namespace Go.Proofs.YtcipkkeegbfaeaaDoor
open Go.RowKit

/-- What the collecting loop owns: all that was there before it, its variable, and the row that the variable names. -/
def FC (Oc : Nat) (W : World) (j : Nat) : Prop := j < Oc ∨ j = Oc ∨ ∃ v, W.cell? ⟨Oc, 0, none⟩ = some v ∧ v.ownBlock = some j
/-- k elements (of size cells each, of type e) are collected: they are rf k; m is how many elements that makes. -/
def IC (e : TypeId) (size : Nat) (rf : Nat → List Value) (w0 : World) (Oc : Nat) (k : Nat) (W : World) : Prop :=
  Below Oc w0 W ∧ ∃ v, W.cell? ⟨Oc, 0, none⟩ = some v ∧ W.frozen? ⟨Oc, 0, none⟩ = false ∧ W.ownsRow (Oc + 1) e size v k (rf k)
section
variable {e : TypeId} {size : Nat} {rf : Nat → List Value}
theorem IC.foot {w0 : World} {Oc : Nat} (hs : Oc ≤ w0.heap.size) (k : Nat) : Foot (FC Oc) (IC e size rf w0 Oc k) where
  lt := fun W ⟨h2, v, h3, _, h5⟩ j hj => by
    rcases hj with hj | rfl | ⟨v', hv, hj⟩
    · have := h2.size; omega
    · exact World.block_lt_of_cell? W _ h3
    · rw [h3] at hv; injection hv with hv; subst hv
      exact (h5.lt j hj).2
  keep := fun W W' ⟨h2, v, h3, h4, h5⟩ hc => by
    have nO : ¬ ¬ FC Oc W Oc := fun hn => hn (.inr (.inl rfl))
    have e3 : W'.cell? ⟨Oc, 0, none⟩ = some v := hc.cell h3 nO
    refine ⟨⟨h2.trans (Ch.below hc (fun j hj hn => hn (.inl hj)) (by have := h2.size; omega)), v, e3, (hc.frozenCell h3 nO).trans h4,
      own_same h5 fun g hg => hc.block g (h5.lt g hg).2 fun hn => hn (.inr (.inr ⟨v, h3, hg⟩))⟩, fun j hj => ?_⟩
    rcases hj with hj | hj | ⟨v', hv, hj⟩
    · exact .inl hj
    · exact .inr (.inl hj)
    · rw [e3] at hv; injection hv with hv; subst hv
      exact .inr (.inr ⟨v, h3, hj⟩)
theorem grow_cell {A w1 : World} {Oc : Nat} {v : Value} {n : Nat} {xs : List Value} {ob : Obj} (h3 : A.cell? ⟨Oc, 0, none⟩ = some v) (h4 : A.frozen? ⟨Oc, 0, none⟩ = false)
    (h5 : A.ownsRow (Oc + 1) e size v n xs) (hg : (A.alloc ob).grownBy w1 v.ownBlock) : w1.cell? ⟨Oc, 0, none⟩ = some v ∧ w1.frozen? ⟨Oc, 0, none⟩ = false := by
  have hcr : Ch (fun j => v.ownBlock = some j) A w1 := (((Ch.refl (fun _ => False) A).alloc ob).mono (fun _ _ h => h.elim)).trans (ch_grown hg)
  exact ⟨hcr.cell h3 fun hj => by have := own_ge h5 _ hj; simp only at this; omega, (hcr.frozenCell h3 fun hj => by have := own_ge h5 _ hj; simp only at this; omega).trans h4⟩
/-- A round's append: the row has grown, the variable names it. -/
theorem IC.grow {w0 A w1 : World} {Oc : Nat} {k : Nat} {v v' : Value} {ob : Obj} (h2 : Below Oc w0 A) (hs0 : Oc ≤ w0.heap.size) (h3 : A.cell? ⟨Oc, 0, none⟩ = some v) (h4 : A.frozen? ⟨Oc, 0, none⟩ = false)
    (h5 : A.ownsRow (Oc + 1) e size v k (rf k))
    (ho : w1.ownsRow (Oc + 1) e size v' (k + 1) (rf (k + 1))) (hg : (A.alloc ob).grownBy w1 v.ownBlock) (hat : v'.ownBlock = v.ownBlock ∨ v'.ownBlock = some (A.alloc ob).heap.size) :
    Step (FC Oc) A (w1.setCell ⟨Oc, 0, none⟩ v') ∧ IC e size rf w0 Oc (k + 1) (w1.setCell ⟨Oc, 0, none⟩ v') := by
  have hz := h2.size
  have hge : ∀ j, v.ownBlock = some j → Oc + 1 ≤ j := fun j hj => own_ge h5 j hj
  have hcr : Ch (fun j => v.ownBlock = some j) A w1 := (((Ch.refl (fun _ => False) A).alloc ob).mono (fun _ _ h => h.elim)).trans (ch_grown hg)
  have e3 : w1.cell? ⟨Oc, 0, none⟩ = some v := hcr.cell h3 fun hj => by have := hge _ hj; simp only at this; omega
  have e4 : w1.frozen? ⟨Oc, 0, none⟩ = false := (hcr.frozenCell h3 fun hj => by have := hge _ hj; simp only at this; omega).trans h4
  have e5 : (w1.setCell ⟨Oc, 0, none⟩ v').cell? ⟨Oc, 0, none⟩ = some v' := World.cell?_setCell_same _ _ _ e3
  have hcW : Ch (fun j => j = Oc ∨ v.ownBlock = some j) A (w1.setCell ⟨Oc, 0, none⟩ v') := (hcr.mono fun _ _ h => .inr h).setCell _ _ (.inl (.inl rfl))
  refine ⟨⟨hcW.mono fun j _ hj => ?_, fun j hj => ?_⟩, h2.trans (hcW.below (fun j hj hn => ?_) (by omega)), v', e5, ?_, ?_⟩
  · rcases hj with hj | hj
    · exact .inr (.inl hj)
    · exact .inr (.inr ⟨v, h3, hj⟩)
  · rcases hj with hj | hj | ⟨v'', hv, hj⟩
    · exact .inl (.inl hj)
    · exact .inl (.inr (.inl hj))
    · rw [e5] at hv; injection hv with hv; subst hv
      rcases hat with ha | ha
      · rw [ha] at hj; exact .inl (.inr (.inr ⟨v, h3, hj⟩))
      · rw [ha] at hj; injection hj with hj; subst hj
        right; simp
  · rcases hn with hn | hn
    · omega
    · have := hge _ hn; omega
  · rw [World.frozen?_setCell]; exact e4
  · exact own_same ho fun g hg' => Below.heap_setCell w1 ⟨Oc, 0, none⟩ v' g (by have := own_ge ho g hg'; show g ≠ Oc; omega)
end
end Go.Proofs.YtcipkkeegbfaeaaDoor
