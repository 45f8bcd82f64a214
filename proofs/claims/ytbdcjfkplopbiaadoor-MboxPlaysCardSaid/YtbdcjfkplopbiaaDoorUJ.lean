/- The contract of mbox's told. -/
import Derived.Test.YtbdcjfkplopbiaaDoorUB
import Derived.Test.YtbdcjfkplopbiaaDoorFoot2
namespace Go.Proofs.YtbdcjfkplopbiaaDoor
open Go.RowKit
attribute [local go_sem] Oper.semAt_some

theorem infoNote : (Tryd.prog.info? 30).map (fun i => (i.zero, i.size, i.bytes)) = some (some (.agg #[.int .i64 0, .int .i64 0]), 2, 16) := by kernel_rfl
/-- The cells of pairs in a row. -/
def prow : List (Int × Int) → List Value
  | [] => []
  | x :: l => .int .i64 x.1 :: .int .i64 x.2 :: prow l
theorem prow_app (l m : List (Int × Int)) : prow (l ++ m) = prow l ++ prow m := by
  induction l with
  | nil => rfl
  | cons x l ih => simp [prow, ih]
theorem prow_len (l : List (Int × Int)) : (prow l).length = 2 * l.length := by
  induction l with
  | nil => rfl
  | cons x l ih => simp [prow, ih]; omega
def pth (l : List (Int × Int)) (k : Nat) : Int × Int := l.getD k (0, 0)
theorem prow_at (l : List (Int × Int)) (k : Nat) (h : k < l.length) : (prow l)[2 * k]? = some (.int .i64 (pth l k).1) ∧ (prow l)[2 * k + 1]? = some (.int .i64 (pth l k).2) := by
  induction l generalizing k with
  | nil => simp at h
  | cons x l ih =>
    cases k with
    | zero => exact ⟨rfl, rfl⟩
    | succ k =>
      have := ih k (by simpa using h)
      rw [show 2 * (k + 1) = 2 * k + 1 + 1 by omega]
      exact ⟨by simpa [prow, pth] using this.1, by simpa [prow, pth] using this.2⟩
/-- What a collecting loop owns: all that was there before it, its variable, and the row that the variable names. -/
def FC (b0 Oc : Nat) (W : World) (j : Nat) : Prop := j < b0 ∨ j = Oc ∨ ∃ v, W.cell? ⟨Oc, 0, none⟩ = some v ∧ v.ownBlock = some j
/-- These are collected. -/
def IX (w0 : World) (b0 Oc : Nat) (X : List (Int × Int)) (W : World) : Prop :=
  Below b0 w0 W ∧ ∃ v, W.cell? ⟨Oc, 0, none⟩ = some v ∧ W.frozen? ⟨Oc, 0, none⟩ = false ∧ W.ownsRow (Oc + 1) 30 2 v X.length (prow X)
theorem IX.foot {w0 : World} {b0 Oc : Nat} {X : List (Int × Int)} (hs : b0 ≤ w0.heap.size) : Foot (FC b0 Oc) (IX w0 b0 Oc X) where
  lt := fun W ⟨h2, v, h3, _, h5⟩ j hj => by
    rcases hj with hj | rfl | ⟨v', hv, hj⟩
    · have := h2.size; omega
    · exact World.block_lt_of_cell? W _ h3
    · rw [h3] at hv; injection hv with hv; subst hv
      exact (h5.lt j hj).2
  keep := fun W W' ⟨h2, v, h3, h4, h5⟩ hc => by
    have nO : ¬ ¬ FC b0 Oc W Oc := fun hn => hn (.inr (.inl rfl))
    have e3 : W'.cell? ⟨Oc, 0, none⟩ = some v := hc.cell h3 nO
    refine ⟨⟨h2.trans (Ch.below hc (fun j hj hn => hn (.inl hj)) (by have := h2.size; omega)), v, e3, (hc.frozenCell h3 nO).trans h4,
      own_same h5 fun g hg => hc.block g (h5.lt g hg).2 fun hn => hn (.inr (.inr ⟨v, h3, hg⟩))⟩, fun j hj => ?_⟩
    rcases hj with hj | hj | ⟨v', hv, hj⟩
    · exact .inl hj
    · exact .inr (.inl hj)
    · rw [e3] at hv; injection hv with hv; subst hv
      exact .inr (.inr ⟨v, h3, hj⟩)
theorem grow_cell {A w1 : World} {Oc : Nat} {v : Value} {n : Nat} {xs : List Value} {ob : Obj} (h3 : A.cell? ⟨Oc, 0, none⟩ = some v) (h4 : A.frozen? ⟨Oc, 0, none⟩ = false)
    (h5 : A.ownsRow (Oc + 1) 30 2 v n xs) (hg : (A.alloc ob).grownBy w1 v.ownBlock) : w1.cell? ⟨Oc, 0, none⟩ = some v ∧ w1.frozen? ⟨Oc, 0, none⟩ = false := by
  have hcr : Ch (fun j => v.ownBlock = some j) A w1 := (((Ch.refl (fun _ => False) A).alloc ob).mono (fun _ _ h => h.elim)).trans (ch_grown hg)
  exact ⟨hcr.cell h3 fun hj => by have := own_ge h5 _ hj; simp only at this; omega, (hcr.frozenCell h3 fun hj => by have := own_ge h5 _ hj; simp only at this; omega).trans h4⟩
/-- An append: the row has grown, the variable names it. -/
theorem IX.grow {w0 A w1 : World} {b0 Oc : Nat} {X : List (Int × Int)} {x y : Int} {v v' : Value} {ob : Obj} (h2 : Below b0 w0 A) (hbO : b0 ≤ Oc) (hs0 : b0 ≤ w0.heap.size) (h3 : A.cell? ⟨Oc, 0, none⟩ = some v) (h4 : A.frozen? ⟨Oc, 0, none⟩ = false)
    (h5 : A.ownsRow (Oc + 1) 30 2 v X.length (prow X))
    (ho : w1.ownsRow (Oc + 1) 30 2 v' (X.length + 1) (prow X ++ [.int .i64 x, .int .i64 y])) (hg : (A.alloc ob).grownBy w1 v.ownBlock) (hat : v'.ownBlock = v.ownBlock ∨ v'.ownBlock = some (A.alloc ob).heap.size) :
    Step (FC b0 Oc) A (w1.setCell ⟨Oc, 0, none⟩ v') ∧ IX w0 b0 Oc (X ++ [(x, y)]) (w1.setCell ⟨Oc, 0, none⟩ v') := by
  have hz := h2.size
  have hge : ∀ j, v.ownBlock = some j → Oc + 1 ≤ j := fun j hj => own_ge h5 j hj
  have hcr : Ch (fun j => v.ownBlock = some j) A w1 := (((Ch.refl (fun _ => False) A).alloc ob).mono (fun _ _ h => h.elim)).trans (ch_grown hg)
  have e3 : w1.cell? ⟨Oc, 0, none⟩ = some v := hcr.cell h3 fun hj => by have := hge _ hj; simp only at this; omega
  have e4 : w1.frozen? ⟨Oc, 0, none⟩ = false := (hcr.frozenCell h3 fun hj => by have := hge _ hj; simp only at this; omega).trans h4
  have e5 : (w1.setCell ⟨Oc, 0, none⟩ v').cell? ⟨Oc, 0, none⟩ = some v' := World.cell?_setCell_same _ _ _ e3
  have hcW : Ch (fun j => j = Oc ∨ v.ownBlock = some j) A (w1.setCell ⟨Oc, 0, none⟩ v') := (hcr.mono fun _ _ h => .inr h).setCell _ _ (.inl (.inl rfl))
  refine ⟨⟨hcW.mono fun j _ hj => ?_, fun j hj => ?_⟩, h2.trans (hcW.below (fun j hj hn => ?_) (by omega)), v', e5, ?_, ?_⟩
  · rcases hj with hj | hj
    · exact .inr (.inl hj)
    · exact .inr (.inr ⟨v, h3, hj⟩)
  · rcases hj with hj | hj | ⟨v'', hv, hj⟩
    · exact .inl (.inl hj)
    · exact .inl (.inr (.inl hj))
    · rw [e5] at hv; injection hv with hv; subst hv
      rcases hat with ha | ha
      · rw [ha] at hj; exact .inl (.inr (.inr ⟨v, h3, hj⟩))
      · rw [ha] at hj; injection hj with hj; subst hj
        right; simp
  · rcases hn with hn | hn
    · omega
    · have := hge _ hn; omega
  · rw [World.frozen?_setCell]; exact e4
  · rw [List.length_append, prow_app]
    exact own_same ho fun g hg' => Below.heap_setCell w1 ⟨Oc, 0, none⟩ v' g (by have := own_ge ho g hg'; show g ≠ Oc; omega)
/-- The messages of a degree; those of the first so many degrees of which there are some. -/
def nts (f : Nat → List Int) (d : Nat) : List (Int × Int) := (f d).map fun x => ((d : Int), x)
def tk (f : Nat → List Int) (k : Nat) : List (Int × Int) := ((lst (dgK f 32) 32).take k).flatMap (nts f)
/-- All, as they would be taken. -/
def toldF (f : Nat → List Int) : List (Int × Int) := tk f (lst (dgK f 32) 32).length
theorem tk_succ (f : Nat → List Int) (k d : Nat) (h : (lst (dgK f 32) 32)[k]? = some d) : tk f (k + 1) = tk f k ++ nts f d := by
  have hk : k < (lst (dgK f 32) 32).length := (List.getElem?_eq_some_iff.1 h).1
  unfold tk
  rw [List.take_succ_eq_append_getElem hk, List.flatMap_append]
  have : (lst (dgK f 32) 32)[k] = d := by
    rw [List.getElem?_eq_getElem hk] at h; injection h
  rw [this]; simp
theorem many_sub (f : Nat → List Int) : ∀ (n : Nat) (ds : List Nat), ds.Pairwise (· < ·) → (∀ d ∈ ds, d < n) → (ds.flatMap (nts f)).length ≤ many f n
  | 0, ds, _, h => by
    cases ds with
    | nil => exact Nat.le_refl _
    | cons a l => have := h a List.mem_cons_self; omega
  | n + 1, ds, hp, h => by
    show _ ≤ many f n + (f n).length
    rcases List.eq_nil_or_concat ds with rfl | ⟨l, a, rfl⟩
    · exact Nat.zero_le _
    · rw [List.concat_eq_append] at hp h ⊢
      rw [List.flatMap_append, List.length_append]
      rw [List.pairwise_append] at hp
      have hla : ∀ d ∈ l, d < a := fun d hd => hp.2.2 d hd a (by simp)
      have han : a < n + 1 := h a (by simp)
      have h1 := many_sub f n l hp.1 (fun d hd => by have := hla d hd; omega)
      by_cases e : a = n
      · subst e
        have e2 : ([a].flatMap (nts f)).length = (f a).length := by simp [nts]
        omega
      · have h2 := many_sub f n (l ++ [a]) (by rw [List.pairwise_append]; exact hp) (fun d hd => by
          rcases List.mem_append.1 hd with hd | hd
          · have := hla d hd; omega
          · simp at hd; omega)
        rw [List.flatMap_append, List.length_append] at h2
        omega
theorem tk_len (f : Nat → List Int) (k : Nat) : (tk f k).length ≤ many f 32 := by
  have hs : (lst (dgK f 32) 32).Pairwise (· < ·) := by unfold lst; exact List.Pairwise.filter _ List.pairwise_lt_range
  refine many_sub f 32 _ (hs.sublist (List.take_sublist _ _)) (fun d hd => ?_)
  exact ((mem_lst _ _ _).1 (List.mem_of_mem_take hd)).1
end Go.Proofs.YtbdcjfkplopbiaaDoor
