/- Plain lemmas of this prover's own: a block with its cells, rows that a call owns, worlds behind draws. No statement about the program. -/
import Derived.Test.YtmaackdfhmpicaaFoot
import Derived.Test.YtmaackdfhmpicaaOwn
import Derived.WalkKit
import Derived.ProofKit
namespace Go.Proofs.Ytmaackdfhmpicaa
open Go.RowKit

/-- A block of its own, with its cells. -/
structure BoxAt (w : World) (B : Nat) (l : List Value) : Prop where
  lt : B < w.heap.size
  cell : ∀ j u, l[j]? = some u → w.cell? ⟨B, j, none⟩ = some u
  fr : ∀ j, w.frozen? ⟨B, j, none⟩ = false
theorem BoxAt.mk_new (w : World) (c : Array Value) (t : TypeId) : BoxAt (w.alloc (.cells c t)) w.heap.size c.toList :=
  ⟨by rw [World.size_alloc]; omega, fun j u hu => by rw [World.cell?_alloc_new]; simpa using hu, fun j => World.frozen?_alloc_new ..⟩
theorem BoxAt.keep {T : Nat → Prop} {w w' : World} {B : Nat} {l : List Value} (h : BoxAt w B l) (c : Ch T w w') (hT : ¬ T B) : BoxAt w' B l :=
  ⟨Nat.lt_of_lt_of_le h.lt c.size, fun j u hu => c.cell (h.cell j u hu) hT, fun j => (c.frozen (p := ⟨B, j, none⟩) h.lt hT).trans (h.fr j)⟩
theorem BoxAt.new {w w' : World} {B : Nat} {l : List Value} (h : BoxAt w B l) (c : Below w.heap.size w w') : BoxAt w' B l := h.keep (T := fun _ => False) (Ch.new c) (fun h => h)
theorem BoxAt.alloc {w : World} {B : Nat} {l : List Value} (h : BoxAt w B l) (o : Obj) : BoxAt (w.alloc o) B l := h.new ((Below.refl _ _).alloc (Nat.le_refl _) _)
theorem BoxAt.set {w : World} {B : Nat} {l : List Value} (h : BoxAt w B l) (j : Nat) (v : Value) (hj : j < l.length) : BoxAt (w.setCell ⟨B, j, none⟩ v) B (l.set j v) := by
  refine ⟨by rw [World.size_setCell]; exact h.lt, fun i u hu => ?_, fun i => by rw [World.frozen?_setCell]; exact h.fr i⟩
  by_cases e : i = j
  · subst e
    rw [List.getElem?_set_self hj] at hu
    rw [← hu]
    exact World.cell?_setCell_same _ _ _ (h.cell i _ (List.getElem?_eq_getElem hj))
  · rw [List.getElem?_set_ne (fun e' => e e'.symm)] at hu
    rw [World.cell?_setCell_other _ _ _ _ (fun e' => e (by injection e' with _ e'; exact e'.symm))]
    exact h.cell i u hu
theorem BoxAt.other {w : World} {B : Nat} {l : List Value} (h : BoxAt w B l) (a : Addr) (v : Value) (ha : a.block ≠ B) : BoxAt (w.setCell a v) B l :=
  h.keep (T := fun j => j = a.block) ((Ch.refl _ _).setCell _ _ (.inl rfl)) (fun e => ha e.symm)

theorem own_ne {A : World} {b1 b2 : Nat} {e1 e2 : TypeId} {s1 s2 g1 n1 k1 g2 n2 k2 m1 m2 : Nat} {x1 x2 : List Value} (h1 : A.ownsRow b1 e1 s1 (.slice (some ⟨g1, 0, none⟩) n1 k1) m1 x1) (h2 : A.ownsRow b2 e2 s2 (.slice (some ⟨g2, 0, none⟩) n2 k2) m2 x2) (he : e1 ≠ e2) : g1 ≠ g2 := by
  rintro rfl
  rcases h1.2 with ⟨h, _⟩ | ⟨g, c, cur, hv, _, ho, _⟩
  · cases h
  rcases h2.2 with ⟨h, _⟩ | ⟨g', c', cur', hv', _, ho', _⟩
  · cases h
  cases hv; cases hv'
  rw [ho] at ho'
  cases ho'
  exact he rfl
theorem own_some {A : World} {base : Nat} {e : TypeId} {size : Nat} {v : Value} {n : Nat} {xs : List Value} (h : A.ownsRow base e size v n xs) (hn : 0 < n) : ∃ b cap, v = .slice (some ⟨b, 0, none⟩) n cap ∧ base ≤ b ∧ b < A.heap.size := by
  rcases h.2 with ⟨h0, h1⟩ | ⟨g, cap, cur, hv, _⟩
  · omega
  · have := h.lt g (by rw [hv]; rfl)
    exact ⟨g, cap, hv, this.1, this.2⟩
theorem size_add (w : World) (c : Array Value) (t : TypeId) : (w.alloc (.cells c t)).heap.size = w.heap.size + 1 := World.size_alloc ..
theorem below_dn {b : Nat} {a w : World} (h : Below b a w) (n : Nat) : Below b a (w.drewN n) := h.trans ⟨rfl, rfl, rfl, Nat.le_refl _, fun _ _ => rfl⟩
theorem wrap_nat (x : Int) (n : Nat) (h : x = (n : Int)) (hn : n < 1000000) : IntKind.i64.wrap x = (n : Int) := by rw [IntKind.wrap_i64]; omega
/-- A callee's contract that turns nothing, met in a quiet walk. -/
theorem quietly {P : Program} {f : FuncId} {args : Array Value} {w : World} {n : Nat} {v : Value} (h : Calls P f args (w.drewN n) fun e w' => e = .returned v ∧ w.drewN n = w') :
    Calls P f args (w.drewN n) fun e w'' => e = .returned v ∧ ∃ m, w'' = w.drewN m := h.mono fun _ _ ⟨he, hm⟩ => ⟨he, n, hm.symm⟩
end Go.Proofs.Ytmaackdfhmpicaa
