/- The contract of Pack. -/
import Derived.Test.YtkbmgilceioieaaRP
import Derived.Test.YtkbmgilceioieaaBr
namespace Go.Proofs.Ytkbmgilceioieaa
open Go.RowKit
attribute [local go_sem] Oper.semAt_some

/-- What Pack's loop owns: all that was there before it, its variables, and the row that is packed. -/
def FP (Oc : Nat) (W : World) (j : Nat) : Prop := j < Oc + 4 ∨ ∃ v, W.cell? ⟨Oc + 1, 0, none⟩ = some v ∧ v.ownBlock = some j
structure PV (w0 : World) (Oc : Nat) (vl : Value) (pk : List Nat) (fr to : Nat) (v : Value) (W : World) : Prop where
  below : Below Oc w0 W
  c0 : W.cell? ⟨Oc, 0, none⟩ = some vl
  c1 : W.cell? ⟨Oc + 1, 0, none⟩ = some v
  f1 : W.frozen? ⟨Oc + 1, 0, none⟩ = false
  c2 : W.cell? ⟨Oc + 1 + 1, 0, none⟩ = some (.int .i64 fr)
  f2 : W.frozen? ⟨Oc + 1 + 1, 0, none⟩ = false
  c3 : W.cell? ⟨Oc + 1 + 1 + 1, 0, none⟩ = some (.int .i64 to)
  f3 : W.frozen? ⟨Oc + 1 + 1 + 1, 0, none⟩ = false
  own : W.ownsRow (Oc + 5) 27 1 v pk.length (rowW pk)
/-- Between two runs. -/
def IP (w0 : World) (Oc : Nat) (vl : Value) (l : List Nat) (to : Nat) (W : World) : Prop := ∃ pk fr v, Inv l pk fr to ∧ PV w0 Oc vl pk fr to v W
theorem PV.lt {w0 W : World} {Oc : Nat} {vl v : Value} {pk : List Nat} {fr to : Nat} (h : PV w0 Oc vl pk fr to v W) : Oc + 4 ≤ W.heap.size := by
  have := World.block_lt_of_cell? W _ h.c3; simp at this; omega
/-- The variables lie as they lay. -/
theorem PV.keep {w0 W W' : World} {Oc : Nat} {vl v : Value} {pk : List Nat} {fr to : Nat} {T : Nat → Prop} (h : PV w0 Oc vl pk fr to v W) (_hs : Oc ≤ w0.heap.size) (c : Ch T W W') (hT : ∀ j, j < Oc + 4 → ¬ T j) (hv : ∀ j, v.ownBlock = some j → ¬ T j) : PV w0 Oc vl pk fr to v W' :=
  ⟨h.below.trans (c.below (fun j hj => hT j (by omega)) (by have := h.lt; omega)), c.cell h.c0 (hT Oc (by omega)), c.cell h.c1 (hT (Oc + 1) (by omega)), (c.frozenCell h.c1 (hT (Oc + 1) (by omega))).trans h.f1,
    c.cell h.c2 (hT (Oc + 1 + 1) (by omega)), (c.frozenCell h.c2 (hT (Oc + 1 + 1) (by omega))).trans h.f2, c.cell h.c3 (hT (Oc + 1 + 1 + 1) (by omega)), (c.frozenCell h.c3 (hT (Oc + 1 + 1 + 1) (by omega))).trans h.f3,
    own_same h.own fun g hg => c.block g (h.own.lt g hg).2 (hv g hg)⟩
theorem IP.foot {w0 : World} {Oc : Nat} {vl : Value} {l : List Nat} {to : Nat} (hs : Oc ≤ w0.heap.size) : Foot (FP Oc) (IP w0 Oc vl l to) where
  lt := fun W ⟨pk, fr, v, hi, h⟩ j hj => by
    have := h.lt
    rcases hj with hj | ⟨v', hv, hj⟩
    · omega
    · rw [h.c1] at hv; injection hv with hv; subst hv
      exact (h.own.lt j hj).2
  keep := fun W W' ⟨pk, fr, v, hi, h⟩ hc => by
    have h' := h.keep hs hc (fun j hj hn => hn (.inl hj)) (fun j hj hn => hn (.inr ⟨v, h.c1, hj⟩))
    refine ⟨⟨pk, fr, v, hi, h'⟩, fun j hj => ?_⟩
    rcases hj with hj | ⟨v', hv, hj⟩
    · exact .inl hj
    · rw [h'.c1] at hv; injection hv with hv; subst hv
      exact .inr ⟨v, h.c1, hj⟩
/-- A store into the counters. -/
theorem PV.setTo {w0 W : World} {Oc : Nat} {vl v : Value} {pk : List Nat} {fr to : Nat} (h : PV w0 Oc vl pk fr to v W) (_hs : Oc ≤ w0.heap.size) (to' : Nat) :
    Step (FP Oc) W (W.setCell ⟨Oc + 1 + 1 + 1, 0, none⟩ (.int .i64 to')) ∧ PV w0 Oc vl pk fr to' v (W.setCell ⟨Oc + 1 + 1 + 1, 0, none⟩ (.int .i64 to')) := by
  have c : Ch (fun j => j = Oc + 1 + 1 + 1) W (W.setCell ⟨Oc + 1 + 1 + 1, 0, none⟩ (.int .i64 to')) := (Ch.refl _ _).setCell _ _ (.inl rfl)
  have n1 : ¬ Oc = Oc + 1 + 1 + 1 := by omega
  have n2 : ¬ Oc + 1 = Oc + 1 + 1 + 1 := by omega
  have n3 : ¬ Oc + 1 + 1 = Oc + 1 + 1 + 1 := by omega
  have e1 := c.cell h.c1 n2
  refine ⟨⟨c.mono fun j _ hj => .inl (by omega), fun j hj => ?_⟩, h.below.trans (c.below (fun j hj e => by omega) (by have := h.lt; omega)), c.cell h.c0 n1, e1, (c.frozenCell h.c1 n2).trans h.f1, c.cell h.c2 n3, (c.frozenCell h.c2 n3).trans h.f2,
    World.cell?_setCell_same _ _ _ h.c3, by rw [World.frozen?_setCell]; exact h.f3, own_same h.own fun g hg => c.block g (h.own.lt g hg).2 (by have := own_ge h.own g hg; omega)⟩
  rcases hj with hj | ⟨v', hv, hj⟩
  · exact .inl (.inl hj)
  · rw [e1] at hv; injection hv with hv; subst hv
    exact .inl (.inr ⟨v, h.c1, hj⟩)
theorem PV.setFr {w0 W : World} {Oc : Nat} {vl v : Value} {pk : List Nat} {fr to : Nat} (h : PV w0 Oc vl pk fr to v W) (_hs : Oc ≤ w0.heap.size) (fr' : Nat) :
    Step (FP Oc) W (W.setCell ⟨Oc + 1 + 1, 0, none⟩ (.int .i64 fr')) ∧ PV w0 Oc vl pk fr' to v (W.setCell ⟨Oc + 1 + 1, 0, none⟩ (.int .i64 fr')) := by
  have c : Ch (fun j => j = Oc + 1 + 1) W (W.setCell ⟨Oc + 1 + 1, 0, none⟩ (.int .i64 fr')) := (Ch.refl _ _).setCell _ _ (.inl rfl)
  have n1 : ¬ Oc = Oc + 1 + 1 := by omega
  have n2 : ¬ Oc + 1 = Oc + 1 + 1 := by omega
  have n3 : ¬ Oc + 1 + 1 + 1 = Oc + 1 + 1 := by omega
  have e1 := c.cell h.c1 n2
  refine ⟨⟨c.mono fun j _ hj => .inl (by omega), fun j hj => ?_⟩, h.below.trans (c.below (fun j hj e => by omega) (by have := h.lt; omega)), c.cell h.c0 n1, e1, (c.frozenCell h.c1 n2).trans h.f1,
    World.cell?_setCell_same _ _ _ h.c2, by rw [World.frozen?_setCell]; exact h.f2, c.cell h.c3 n3, (c.frozenCell h.c3 n3).trans h.f3, own_same h.own fun g hg => c.block g (h.own.lt g hg).2 (by have := own_ge h.own g hg; omega)⟩
  rcases hj with hj | ⟨v', hv, hj⟩
  · exact .inl (.inl hj)
  · rw [e1] at hv; injection hv with hv; subst hv
    exact .inl (.inr ⟨v, h.c1, hj⟩)
/-- The row has grown, the variable names it. -/
theorem PV.put {w0 W w3 : World} {Oc : Nat} {vl v v' : Value} {pk pk' : List Nat} {fr to : Nat} (h : PV w0 Oc vl pk fr to v W) (_hs : Oc ≤ w0.heap.size) (hz : Oc + 5 ≤ W.heap.size) (c : Ch (fun j => v.ownBlock = some j) W w3) (ho : w3.ownsRow (Oc + 5) 27 1 v' pk'.length (rowW pk'))
    (hn : ∀ j, v'.ownBlock = some j → v.ownBlock = some j ∨ W.heap.size ≤ j) :
    PV w0 Oc vl pk fr to v W ∧ w3.cell? ⟨Oc + 1, 0, none⟩ = some v ∧ w3.frozen? ⟨Oc + 1, 0, none⟩ = false ∧ Step (FP Oc) W (w3.setCell ⟨Oc + 1, 0, none⟩ v') ∧ PV w0 Oc vl pk' fr to v' (w3.setCell ⟨Oc + 1, 0, none⟩ v') := by
  have hvb : ∀ j, v.ownBlock = some j → Oc + 5 ≤ j := fun j hj => own_ge h.own j hj
  have e1 : w3.cell? ⟨Oc + 1, 0, none⟩ = some v := c.cell h.c1 fun hj => by have := hvb _ hj; simp only at this; omega
  have g1 : w3.frozen? ⟨Oc + 1, 0, none⟩ = false := (c.frozenCell h.c1 fun hj => by have := hvb _ hj; simp only at this; omega).trans h.f1
  have c' : Ch (fun j => v.ownBlock = some j ∨ j = Oc + 1) W (w3.setCell ⟨Oc + 1, 0, none⟩ v') := (c.mono fun _ _ h => .inl h).setCell _ _ (.inl (.inr rfl))
  have hT : ∀ j, j < Oc + 4 → j ≠ Oc + 1 → ¬ (v.ownBlock = some j ∨ j = Oc + 1) := fun j hj hne h => by
    rcases h with h | h
    · have := hvb j h; omega
    · exact hne h
  have e5 : (w3.setCell ⟨Oc + 1, 0, none⟩ v').cell? ⟨Oc + 1, 0, none⟩ = some v' := World.cell?_setCell_same _ _ _ e1
  refine ⟨h, e1, g1, ⟨c'.mono fun j _ hj => ?_, fun j hj => ?_⟩, h.below.trans (c'.below (fun j hj => hT j (by omega) (by omega)) (by have := h.lt; omega)), c'.cell h.c0 (hT Oc (by omega) (by omega)), e5, by rw [World.frozen?_setCell]; exact g1,
    c'.cell h.c2 (hT (Oc + 1 + 1) (by omega) (by omega)), (c'.frozenCell h.c2 (hT (Oc + 1 + 1) (by omega) (by omega))).trans h.f2, c'.cell h.c3 (hT (Oc + 1 + 1 + 1) (by omega) (by omega)), (c'.frozenCell h.c3 (hT (Oc + 1 + 1 + 1) (by omega) (by omega))).trans h.f3,
    own_same ho fun g hg => Below.heap_setCell w3 ⟨Oc + 1, 0, none⟩ v' g (by have := own_ge ho g hg; show g ≠ Oc + 1; omega)⟩
  · rcases hj with hj | hj
    · exact .inr ⟨v, h.c1, hj⟩
    · exact .inl (by omega)
  · rcases hj with hj | ⟨v'', hv, hj⟩
    · exact .inl (.inl hj)
    · rw [e5] at hv; injection hv with hv; subst hv
      rcases hn j hj with h' | h'
      · exact .inl (.inr ⟨v, h.c1, h'⟩)
      · exact .inr h'

/-- A region that draws. -/
theorem PV.drew {w0 W : World} {Oc : Nat} {vl v : Value} {pk : List Nat} {fr to : Nat} (h : PV w0 Oc vl pk fr to v W) (hs : Oc ≤ w0.heap.size) : Step (FP Oc) W W.drew ∧ PV w0 Oc vl pk fr to v W.drew := by
  have c : Ch (fun _ => False) W W.drew := (Ch.refl _ _).drewN 1
  have h' := h.keep hs c (fun _ _ h => h) (fun _ _ h => h)
  refine ⟨⟨c.mono fun _ _ h => h.elim, fun j hj => .inl ?_⟩, h'⟩
  rcases hj with hj | ⟨v', hv, hj⟩
  · exact .inl hj
  · exact .inr ⟨v', hv, hj⟩
/-- The same, with what the walk of a region asks. -/
theorem PV.put2 {w0 W w3 : World} {Oc : Nat} {vl v v' : Value} {pk pk' : List Nat} {fr to : Nat} (h : PV w0 Oc vl pk fr to v W) (hs : Oc ≤ w0.heap.size) (hz : Oc + 5 ≤ W.heap.size) (c : Ch (fun j => v.ownBlock = some j) W w3) (ho : w3.ownsRow (Oc + 5) 27 1 v' pk'.length (rowW pk'))
    (hn : ∀ j, v'.ownBlock = some j → v.ownBlock = some j ∨ W.heap.size ≤ j) :
    (w3.cell? ⟨Oc, 0, none⟩ = some vl ∧ w3.cell? ⟨Oc + 1 + 1, 0, none⟩ = some (.int .i64 fr) ∧ w3.cell? ⟨Oc + 1 + 1 + 1, 0, none⟩ = some (.int .i64 to)) ∧
    ((w3.setCell ⟨Oc + 1, 0, none⟩ v').cell? ⟨Oc, 0, none⟩ = some vl ∧ (w3.setCell ⟨Oc + 1, 0, none⟩ v').cell? ⟨Oc + 1 + 1, 0, none⟩ = some (.int .i64 fr) ∧ (w3.setCell ⟨Oc + 1, 0, none⟩ v').cell? ⟨Oc + 1 + 1 + 1, 0, none⟩ = some (.int .i64 to)) ∧
    w3.cell? ⟨Oc + 1, 0, none⟩ = some v ∧ w3.frozen? ⟨Oc + 1, 0, none⟩ = false ∧ Oc + 5 ≤ (w3.setCell ⟨Oc + 1, 0, none⟩ v').heap.size ∧ Step (FP Oc) W (w3.setCell ⟨Oc + 1, 0, none⟩ v') ∧ PV w0 Oc vl pk' fr to v' (w3.setCell ⟨Oc + 1, 0, none⟩ v') := by
  obtain ⟨-, h1, h2, h3, h4⟩ := h.put hs hz c ho hn
  have hvb : ∀ j, v.ownBlock = some j → Oc + 5 ≤ j := fun j hj => own_ge h.own j hj
  refine ⟨⟨c.cell h.c0 fun hj => ?_, c.cell h.c2 fun hj => ?_, c.cell h.c3 fun hj => ?_⟩, ⟨h4.c0, h4.c2, h4.c3⟩, h1, h2, Nat.le_trans hz h3.1.size, h3, h4⟩
  all_goals have := hvb _ hj; simp only at this; omega

theorem PV.grow {w0 V w3 : World} {Oc : Nat} {vl v : Value} {pk : List Nat} {fr to g cap' : Nat} {obj : Obj} (h : PV w0 Oc vl pk fr to v V) (hs : Oc ≤ w0.heap.size) (hz : Oc + 5 ≤ V.heap.size) (x y : Nat)
    (ho : w3.ownsRow (Oc + 5) 27 1 (.slice (some ⟨g, 0, none⟩) (pk.length + 2) cap') (pk.length + 2) (rowW pk ++ [.int .u32 x, .int .u32 y])) (hg : (V.drew.alloc obj).grownBy w3 v.ownBlock) (hat : v.ownBlock = some g ∨ g = (V.drew.alloc obj).heap.size) :
    Below Oc w0 w3 ∧ w3.cell? ⟨Oc + 1, 0, none⟩ = some v ∧ w3.frozen? ⟨Oc + 1, 0, none⟩ = false ∧ Oc + 5 ≤ (w3.setCell ⟨Oc + 1, 0, none⟩ (.slice (some ⟨g, 0, none⟩) (pk.length + 2) cap')).heap.size ∧
    Step (FP Oc) V (w3.setCell ⟨Oc + 1, 0, none⟩ (.slice (some ⟨g, 0, none⟩) (pk.length + 2) cap')) ∧ PV w0 Oc vl (pk ++ [x, y]) fr to (.slice (some ⟨g, 0, none⟩) (pk.length + 2) cap') (w3.setCell ⟨Oc + 1, 0, none⟩ (.slice (some ⟨g, 0, none⟩) (pk.length + 2) cap')) := by
  have c : Ch (fun _ => False) V (V.drew.alloc obj) := ((Ch.refl _ _).drewN 1).alloc _
  have h' := h.keep hs c (fun _ _ h => h) (fun _ _ h => h)
  have hst : Step (FP Oc) V (V.drew.alloc obj) := by
    refine ⟨c.mono fun _ _ h => h.elim, fun j hj => .inl ?_⟩
    rcases hj with hj | ⟨v', hv, hj⟩
    · exact .inl hj
    · rw [h'.c1] at hv; injection hv with hv; subst hv
      exact .inr ⟨v, h.c1, hj⟩
  have ho' : w3.ownsRow (Oc + 5) 27 1 (.slice (some ⟨g, 0, none⟩) (pk.length + 2) cap') (pk ++ [x, y]).length (rowW (pk ++ [x, y])) := by
    rw [List.length_append, rowW_app]; exact ho
  obtain ⟨-, h1, h2, h3, h4⟩ := h'.put hs (Nat.le_trans hz c.size) (ch_grown hg) ho' (fun j hj => by
    injection hj with hj; subst hj
    exact hat.imp id fun e => Nat.le_of_eq e.symm)
  have hvb : ∀ j, v.ownBlock = some j → Oc + 5 ≤ j := fun j hj => own_ge h.own j hj
  exact ⟨h'.below.trans ((ch_grown hg).below (fun j hj e => by have := hvb j e; omega) (by have := h'.lt; omega)), h1, h2, Nat.le_trans hz (hst.trans h3).1.size, hst.trans h3, h4⟩

theorem PV.after {w0 W w3 : World} {Oc : Nat} {vl v : Value} {pk : List Nat} {fr to : Nat} (h : PV w0 Oc vl pk fr to v W) (c : Ch (fun j => v.ownBlock = some j) W w3) :
    w3.cell? ⟨Oc, 0, none⟩ = some vl ∧ w3.cell? ⟨Oc + 1, 0, none⟩ = some v ∧ w3.cell? ⟨Oc + 1 + 1, 0, none⟩ = some (.int .i64 fr) ∧ w3.cell? ⟨Oc + 1 + 1 + 1, 0, none⟩ = some (.int .i64 to) := by
  have hvb : ∀ j, v.ownBlock = some j → Oc + 5 ≤ j := fun j hj => own_ge h.own j hj
  refine ⟨c.cell h.c0 fun hj => ?_, c.cell h.c1 fun hj => ?_, c.cell h.c2 fun hj => ?_, c.cell h.c3 fun hj => ?_⟩
  all_goals have := hvb _ hj; simp only at this; omega
theorem or_head (n : Nat) (h : n ≤ 4096) : bits .or .u32 2147483648 (n : Int) = ((2147483648 + n : Nat) : Int) := by
  have h0 : 2147483648 ||| n = 2147483648 + n := by have := Nat.two_pow_add_eq_or_of_lt (i := 31) (b := n) (by omega) 1; simpa using this.symm
  have h2 : (BitVec.ofInt 32 (n : Int)).toNat = n := by
    rw [BitVec.ofInt_natCast, BitVec.toNat_ofNat]; exact Nat.mod_eq_of_lt (by omega)
  show IntKind.u32.wrap ((BitVec.ofInt 32 (2147483648 : Int) ||| BitVec.ofInt 32 (n : Int)).toNat : Int) = _
  rw [BitVec.toNat_or, h2]
  show IntKind.u32.wrap ((2147483648 ||| n : Nat) : Int) = _
  rw [h0, IntKind.wrap_u32]
  omega
theorem nthW_head (l : List Nat) (i : Nat) : (l.drop i).headD 0 = nthW l i := by unfold nthW; rw [List.headD_eq_head?_getD, List.head?_drop, List.getD_eq_getElem?_getD]

set_option maxHeartbeats 4000000 in
set_option maxRecDepth 100000 in
theorem pack_any (l : List Nat) (sp : Option Addr) (b off cap : Nat) (w : World) (hl : SL w sp b off l) (hcap : l.length ≤ cap) (hlen : l.length ≤ 30000) (_hmax : cap ≤ maxLen) (_hb : ∀ x ∈ l, x < 4294967296) :
    Calls Try.prog 41 #[.slice sp l.length cap] w fun e w' => ∃ v, e = .returned v ∧ w'.ownsRow w.heap.size 27 1 v (packS l).length (rowW (packS l)) ∧ Below w.heap.size w w' := by
  refine (callsIn_wide (n := 0)).1 ?_
  obtain ⟨i0, hi, hz0, hz1, hz2⟩ := info_parts info27
  refine callsIn_of_wp_marks Try.func41 rfl trivial ?_ rfl
  simp only [Try.ntmps41, List.size_toArray, List.length_cons, List.length_nil, Nat.reduceAdd, Nat.reduceSub, Array.replicate_succ, Array.replicate_zero, List.push_toArray, List.append_toArray, List.nil_append, List.cons_append]
  gi_wp2_with (refine ⟨trivial, rfl, ?_⟩; gi_at_call 64; refine (callsIn_wide.2 (Runs_any .nilFunc _ _ _ _)).mono ?_; rintro e w' ⟨rfl, rfl⟩)
  obtain ⟨Oc, hOc⟩ : ∃ Oc, Oc = w.heap.size := ⟨_, rfl⟩
  generalize hw2 : World.alloc _ (Obj.cells #[Value.slice sp l.length cap] 25) = w2
  have z2 : w2.heap.size = Oc + 5 := by rw [← hw2, hOc]; simp
  have b2 : Below Oc w w2 := by rw [← hw2, hOc]; exact (((((Below.refl _ w).alloc (Nat.le_refl _) _).alloc (by simp) _).alloc (by simp; omega) _).alloc (by simp; omega) _).alloc (by simp; omega) _
  have o2 : w2.cell? ⟨Oc, 0, none⟩ = some (.slice sp l.length cap) ∧ w2.cell? ⟨Oc + 1, 0, none⟩ = some (.slice none 0 0) ∧ w2.frozen? ⟨Oc + 1, 0, none⟩ = false ∧ w2.cell? ⟨Oc + 1 + 1, 0, none⟩ = some (.int .i64 0) ∧ w2.frozen? ⟨Oc + 1 + 1, 0, none⟩ = false ∧ w2.cell? ⟨Oc + 1 + 1 + 1, 0, none⟩ = some (.int .i64 0) ∧ w2.frozen? ⟨Oc + 1 + 1 + 1, 0, none⟩ = false ∧ w2.cell? ⟨Oc + 1 + 1 + 1 + 1, 0, none⟩ = some (.slice sp l.length cap) := by rw [← hw2, hOc]; simp [go_sem]
  rw [← hOc]
  have hPV : IP w Oc (.slice sp l.length cap) l (posR l 0) w2 := ⟨[], 0, _, inv_start l, b2, o2.1, o2.2.1, o2.2.2.1, o2.2.2.2.1, o2.2.2.2.2.1, o2.2.2.2.2.2.1, o2.2.2.2.2.2.2.1, World.ownsRow_nil _ _ _ _⟩
  have HH := Lib.hid (And.intro hOc (And.intro z2 (And.intro b2 (And.intro hPV o2.2.2.2.2.2.2.2))))
  have HL := Lib.hid hl
  have hlb : 0 < l.length → b < Oc := fun h0 => by rw [hOc]; exact hl.lt h0
  have HLB := Lib.hid hlb
  clear hw2 z2 b2 o2 hPV hl hlb hOc
  refine wpIn_rangeF (gf := 79) (lb := #[.pointer (some ⟨Oc + 1 + 1 + 1 + 1, 0, none⟩)]) rfl (enters_of Try.func79 (by kernel_rfl) rfl)
    (runL l).length (fun k => #[.slice (some ⟨b, off + posR l k, none⟩) (often (l.drop (posR l k))) (often (l.drop (posR l k)))]) (fun _ => rfl) (FP Oc)
    (fun k W => IP w Oc (.slice sp l.length cap) l (posR l k) W) (fun _ _ _ => False)
    (fun k => IP.foot (by have := HH.out.1; omega)) (fun _ _ => ⟨fun _ h => h.elim, fun _ _ h => h.elim⟩) HH.out.2.2.2.1
    (fun k a' _ => ∃ u7, a' = { tmps := #[.slice sp l.length cap, .pointer (some ⟨Oc, 0, none⟩), .slice none 0 0, .pointer (some ⟨Oc + 1, 0, none⟩), .pointer (some ⟨Oc + 1 + 1, 0, none⟩), .pointer (some ⟨Oc + 1 + 1 + 1, 0, none⟩), .slice (some ⟨b, off + posR l k, none⟩) (often (l.drop (posR l k))) (often (l.drop (posR l k))), u7, .slice sp l.length cap, .func (.func 79) #[] #[.pointer (some ⟨Oc + 1 + 1 + 1 + 1, 0, none⟩)], .slice (some ⟨b, off + posR l k, none⟩) (often (l.drop (posR l k))) (often (l.drop (posR l k))), undef, undef, undef, undef, undef, undef, undef, undef, undef, undef, undef, undef, undef, undef, undef, undef, undef, undef, undef, undef, undef, undef, undef, undef, undef, undef, undef, undef, undef, undef, undef, undef, undef], defers := [] })
    (fun _ _ _ _ h _ => h) ?hit ?assign ?body ?done (fun _ _ _ _ h => h.elim)
  case hit =>
    intro J' Jx' W1 h1 h2 h3 h4 h5 h6 h7 h8
    rw [HH.out.2.1] at h1 h2 h3 h4 h5 h6 h7 ⊢
    exact runs_in _ (Oc + 1 + 1 + 1 + 1) l sp b off cap _ J' Jx' W1 ((h2.cell (p := ⟨Oc + 1 + 1 + 1 + 1, 0, none⟩) (show Oc + 1 + 1 + 1 + 1 < Oc + 5 by omega)).trans HH.out.2.2.2.2) hcap (by omega)
      (fun k W' hJ => by obtain ⟨⟨pk, fr, v, -, hpv⟩, -⟩ := h3 k W' hJ; exact HL.out.below hpv.below HLB.out) h7 h5 h8
  case assign =>
    intro k W K hi hk hK
    gi_wp2
    exact hK _ _ ⟨_, rfl⟩ (Ch.refl _ _) hi (fun _ h => h)
  case body =>
    rintro k a' W ⟨pk, fr, v, hinv, hpv⟩ hk ⟨u7, rfl⟩ hz
    rw [HH.out.2.1] at hz
    obtain ⟨-, hp1, hpl⟩ := run_at l k hk
    have hne : l.drop (posR l k) ≠ [] := by intro e; have := congrArg List.length e; simp at this; omega
    have hno := often_pos hne
    have hle := often_le (l.drop (posR l k))
    rw [List.length_drop] at hle
    obtain ⟨to, hto⟩ : ∃ to, posR l k = to := ⟨_, rfl⟩
    rw [hto] at hp1 hpl hno hle hpv hinv ⊢
    obtain ⟨n, hn⟩ : ∃ n, often (l.drop to) = n := ⟨_, rfl⟩
    rw [hn] at hp1 hno hle ⊢
    have HP := Lib.hid (And.intro hp1 (And.intro hn (And.intro hpv hinv)))
    have c0 := hpv.c0
    have c1 := hpv.c1
    have c2 := hpv.c2
    have c3 := hpv.c3
    have f1 := hpv.f1
    have f2 := hpv.f2
    have f3 := hpv.f3
    have hsO : Oc ≤ w.heap.size := by have := HH.out.1; omega
    clear hp1 hn hpv hto hne hinv
    by_cases h3 : n < 3
    · have d3 : ¬ (3 : Int) ≤ (n : Int) := by omega
      gi_wp2
      have hst := HP.out.2.2.1.setTo hsO (to + n)
      refine ⟨by simpa using hst.1, ?_⟩
      show IP w Oc _ l (posR l (k + 1)) _
      rw [HP.out.1]
      refine ⟨pk, fr, v, ?_, by simpa using hst.2⟩
      have := inv_few HP.out.2.2.2 hpl (by rw [HP.out.2.1]; exact h3)
      rwa [HP.out.2.1] at this
    · have d3 : (3 : Int) ≤ (n : Int) := by omega
      have mixed : Try.prog.follows .mixedOrders = true := by kernel_rfl
      obtain ⟨sp1, cap1, rfl⟩ := own_val HP.out.2.2.1.own
      obtain rfl := HL.out.1 (by omega)
      gi_wp2
      have hf1 : fr ≤ to := HP.out.2.2.2.2.1
      have hf2 : to ≤ l.length := by omega
      have hi1 : (fr : Int) ≤ (to : Int) := by omega
      have hi2 : (to : Int) ≤ (cap : Int) := by omega
      have hn2 : to ≤ cap := by omega
      obtain ⟨pf, hpf⟩ : ∃ pf : Addr, (if to = fr then (⟨b, off, none⟩ : Addr) else ⟨b, off + fr, none⟩) = pf := ⟨_, rfl⟩
      obtain ⟨seg, hseg⟩ : ∃ seg, (l.drop fr).take (to - fr) = seg := ⟨_, rfl⟩
      have hsl : to - fr = seg.length := by rw [← hseg, List.length_take, List.length_drop]; omega
      have HPd := Lib.hid (HP.out.2.2.1.drew hsO)
      have hSL : SL W.drew (some pf) b (off + fr) seg := by
        have h1 := (((HL.out.below HPd.out.2.below HLB.out).drop fr).take (to - fr))
        rw [hseg] at h1
        refine ⟨fun h0 => ?_, h1.2⟩
        rw [← hpf, if_neg (by omega)]
      obtain ⟨Y, hY⟩ : ∃ Y, pk ++ othS seg = Y := ⟨_, rfl⟩
      have hpk : pk.length ≤ 50000 := by
        have h1 := congrArg List.length HP.out.2.2.2.1
        rw [List.length_append] at h1
        have := (small_any l).1; omega
      have HO := Lib.hid (others_any (Oc + 5) (.slice sp1 pk.length cap1) pk seg (some pf) b (off + fr) seg.length W.drew HPd.out.2.own (Nat.le_trans (by omega) hz) hSL (Nat.le_refl _) (by omega) (by omega) (fun _ hb => by have := own_ge HPd.out.2.own _ hb; have := HLB.out (by omega); omega))
      rw [hY] at HO
      have HSG := Lib.hid (And.intro hpf (And.intro hseg (And.intro hsl (And.intro hY hpk))))
      refine wpIn_region_held0 (S := fun w' => w'.cell? ⟨Oc, 0, none⟩ = some (.slice (some ⟨b, off, none⟩) l.length cap) ∧ w'.cell? ⟨Oc + 1 + 1, 0, none⟩ = some (.int .i64 fr) ∧ w'.cell? ⟨Oc + 1 + 1 + 1, 0, none⟩ = some (.int .i64 to)) mixed (by kernel_rfl) (fun _ _ h => h) ⟨c0, c2, c3⟩ (fun hS => ?_)
      refine wpAnyH_take (i := 1) (oi := ⟨some 16, .load 25 (.tmp 1), 25, "rle.go:47", #[], none⟩) (v := .slice (some ⟨b, off, none⟩) l.length cap) rfl (by kernel_rfl) (by kernel_rfl) (by kernel_rfl) (fun _ _ _ h => h) (Or.inl ⟨by rfl, fun w hw => by obtain ⟨s0, s2, s3⟩ := hw; go_simp⟩) hS ?_
      simp only [Act.put, List.setIfInBounds_toArray, List.set_cons_zero, List.set_cons_succ]
      refine wpAnyH_take (i := 2) (oi := ⟨some 17, .load 3 (.tmp 4), 3, "rle.go:47", #[], none⟩) (v := .int .i64 fr) rfl (by kernel_rfl) (by kernel_rfl) (by kernel_rfl) (fun _ _ _ h => h) (Or.inl ⟨by rfl, fun w hw => by obtain ⟨s0, s2, s3⟩ := hw; go_simp⟩) hS ?_
      simp only [Act.put, List.setIfInBounds_toArray, List.set_cons_zero, List.set_cons_succ]
      refine wpAnyH_take (i := 3) (oi := ⟨some 18, .load 3 (.tmp 5), 3, "rle.go:47", #[], none⟩) (v := .int .i64 to) rfl (by kernel_rfl) (by kernel_rfl) (by kernel_rfl) (fun _ _ _ h => h) (Or.inl ⟨by rfl, fun w hw => by obtain ⟨s0, s2, s3⟩ := hw; go_simp⟩) hS ?_
      simp only [Act.put, List.setIfInBounds_toArray, List.set_cons_zero, List.set_cons_succ]
      refine wpAnyH_take (i := 4) (oi := ⟨some 19, .load 3 (.tmp 5), 3, "rle.go:47", #[], none⟩) (v := .int .i64 to) rfl (by kernel_rfl) (by kernel_rfl) (by kernel_rfl) (fun _ _ _ h => h) (Or.inl ⟨by rfl, fun w hw => by obtain ⟨s0, s2, s3⟩ := hw; go_simp⟩) hS ?_
      simp only [Act.put, List.setIfInBounds_toArray, List.set_cons_zero, List.set_cons_succ]
      refine wpAnyH_take (i := 5) (oi := ⟨some 20, .slice 25 (.tmp 16) (some (.tmp 17)) (some (.tmp 18)) (some (.tmp 19)), 25, "rle.go:47", #[⟨1, .data⟩, ⟨2, .data⟩, ⟨3, .data⟩, ⟨4, .data⟩], none⟩) (v := .slice (some pf) seg.length seg.length) rfl (by kernel_rfl) (by kernel_rfl) (by kernel_rfl) (fun _ _ _ h => h) (Or.inl ⟨by rfl, fun w hw => by
        go_simp
        rw [← hpf]; split <;> rfl⟩) hS ?_
      simp only [Act.put, List.setIfInBounds_toArray, List.set_cons_zero, List.set_cons_succ]
      clear hpf hseg hY hi1 hi2 hn2 hf1 hf2 hSL
      refine wpAnyH_ready (rs := [0]) (by kernel_rfl) (by simp) (AllReadyH.cons (o := ⟨some 15, .load 25 (.tmp 3), 25, "rle.go:47", #[], none⟩) rfl (fun K hK => ?_) AllReadyH.nil)
      go_simp
      refine hK.out _ _ hS (fun hHeld => ?_)
      clear hK K
      try simp only [Act.put, List.setIfInBounds_toArray, List.set_cons_zero, List.set_cons_succ]
      refine wpAnyH_ready (rs := [6]) (by kernel_rfl) (by simp) (AllReadyH.cons (o := ⟨some 21, .call { callee := .value (.func 65), args := #[.tmp 15, .tmp 20], argTypes := #[25, 25] }, 25, "rle.go:47", #[⟨0, .data⟩, ⟨5, .data⟩], none⟩) rfl (fun K hK => ?_) AllReadyH.nil)
      go_simp
      refine HO.out.mono ?_
      rintro e w3 ⟨v3, rfl, ho3, hc3, hn3⟩
      obtain ⟨sp3, cap3, rfl⟩ := own_val ho3
      have HQ := Lib.hid (HPd.out.2.put2 hsO (Nat.le_trans (by omega) hz) hc3 ho3 hn3)
      have e1 := HQ.out.2.2.1
      have g1 := HQ.out.2.2.2.1
      clear ho3 hc3 hn3
      dsimp only
      refine hK.out _ _ HQ.out.1 (fun hHeld => ?_)
      clear hK K
      try simp only [Act.put, List.setIfInBounds_toArray, List.set_cons_zero, List.set_cons_succ]
      refine wpAnyH_ready (rs := [7]) (by kernel_rfl) (by simp) (AllReadyH.cons (o := ⟨none, .store 25 (.tmp 3) (.tmp 21), 0, "rle.go:47", #[⟨6, .data⟩, ⟨6, .chain⟩, ⟨0, .phase⟩, ⟨1, .phase⟩, ⟨2, .phase⟩, ⟨3, .phase⟩, ⟨4, .phase⟩, ⟨5, .phase⟩, ⟨6, .phase⟩], none⟩) rfl (fun K hK => ?_) AllReadyH.nil)
      go_simp
      refine hK.out _ _ HQ.out.2.1 (fun hHeld => ?_)
      clear hK K
      try simp only [Act.put, List.setIfInBounds_toArray, List.set_cons_zero, List.set_cons_succ]
      refine wpAnyH_done (by kernel_rfl) ?_ _
      have hsz := HQ.out.2.2.2.2.1
      have HQd := Lib.hid (HQ.out.2.2.2.2.2.2.drew hsO)
      have HQ0 := Lib.hid HQ.out.2.2.2.2.2.2
      have q1 := HQd.out.2.c1
      have hwr : IntKind.u32.wrap (n : Int) = (n : Int) := by rw [IntKind.wrap_u32]; omega
      have hinv : Inv l (Y ++ [2147483648 + n, nthW l to]) (to + n) (to + n) := by
        have h1 := inv_many HP.out.2.2.2 (by rw [HP.out.2.1]; omega)
        rwa [HP.out.2.1, HSG.out.2.1, HSG.out.2.2.2.1, nthW_head] at h1
      have hpo : Y.length ≤ 50000 := by
        have h1 := congrArg List.length hinv.1
        rw [List.length_append, List.length_append] at h1
        have := (small_any l).1; omega
      have HIN := Lib.hid hinv
      clear hinv
      have hor := or_head n hle.1
      obtain ⟨hd, hhd⟩ : ∃ hd, 2147483648 + n = hd := ⟨_, rfl⟩
      rw [hhd] at hor
      have HHD := Lib.hid hhd
      clear hhd
      have htn : ∀ (j : Nat) (u : Value), [Value.int .u32 (hd : Int), .int .u32 (nthW l to : Nat)][j]? = some u → ((w3.setCell ⟨Oc + 1, 0, none⟩ (.slice sp3 Y.length cap3)).alloc (.cells #[.int .u32 (hd : Int), .int .u32 (nthW l to : Nat)] 27)).drew.cell? ((⟨w3.heap.size, 0, none⟩ : Addr).add j) = some u := by
        have h1 := two_new (w3.setCell ⟨Oc + 1, 0, none⟩ (.slice sp3 Y.length cap3)) (.int .u32 (hd : Int)) (.int .u32 (nthW l to : Nat)) 27
        rw [World.size_setCell] at h1
        exact h1
      have HTN := Lib.hid htn
      clear htn
      have HBA : ∀ o, Below Oc w ((w3.setCell ⟨Oc + 1, 0, none⟩ (.slice sp3 Y.length cap3)).alloc o).drew := fun o => HQd.out.2.below.alloc (Nat.le_trans (by omega) hsz) o
      have hq2 : ((w3.setCell ⟨Oc + 1, 0, none⟩ (.slice sp3 Y.length cap3)).alloc (.cells #[.int .u32 (hd : Int), .int .u32 (nthW l to : Nat)] 27)).cell? ⟨Oc + 1, 0, none⟩ = some (.slice sp3 Y.length cap3) := ((Ch.refl (fun _ => False) _).alloc _).cell HQ0.out.c1 (fun h => h)
      have HNP := Lib.hid (fun (w' : World) (hb : Below Oc w w') => (HL.out.below hb HLB.out).2 to hpl)
      gi_wp2
      refine wpIn_region_held0 (S := fun w' => w'.cell? ⟨b, off + to, none⟩ = some (.int .u32 (nthW l to : Nat))) mixed (by kernel_rfl) (fun _ _ h => h) (HNP.out _ HQd.out.2.below) (fun hS => ?_)
      refine wpAnyH_take (i := 1) (oi := ⟨some 23, .move (.tmp 7), 3, "rle.go:48", #[], none⟩) (v := .int .i64 n) rfl (by kernel_rfl) (by kernel_rfl) (by kernel_rfl) (fun _ _ _ h => h) (Or.inl ⟨by rfl, fun w hw => by go_simp⟩) hS ?_
      simp only [Act.put, List.setIfInBounds_toArray, List.set_cons_zero, List.set_cons_succ]
      refine wpAnyH_take (i := 2) (oi := ⟨some 24, .convert 3 27 (.tmp 23), 27, "rle.go:48", #[⟨1, .data⟩], none⟩) (v := .int .u32 n) rfl (by kernel_rfl) (by kernel_rfl) (by kernel_rfl) (fun _ _ _ h => h) (Or.inl ⟨by rfl, fun w hw => by go_simp⟩) hS ?_
      simp only [Act.put, List.setIfInBounds_toArray, List.set_cons_zero, List.set_cons_succ]
      refine wpAnyH_take (i := 3) (oi := ⟨some 25, .binOp .or 27 (.const (.int .u32 2147483648)) (.tmp 24) 27, 27, "rle.go:48", #[⟨2, .data⟩], none⟩) (v := .int .u32 hd) rfl (by kernel_rfl) (by kernel_rfl) (by kernel_rfl) (fun _ _ _ h => h) (Or.inl ⟨by rfl, fun w hw => by go_simp⟩) hS ?_
      simp only [Act.put, List.setIfInBounds_toArray, List.set_cons_zero, List.set_cons_succ]
      refine wpAnyH_take (i := 4) (oi := ⟨some 26, .move (.tmp 6), 25, "rle.go:48", #[], none⟩) (v := .slice (some ⟨b, off + to, none⟩) n n) rfl (by kernel_rfl) (by kernel_rfl) (by kernel_rfl) (fun _ _ _ h => h) (Or.inl ⟨by rfl, fun w hw => by go_simp⟩) hS ?_
      simp only [Act.put, List.setIfInBounds_toArray, List.set_cons_zero, List.set_cons_succ]
      refine wpAnyH_take (i := 5) (oi := ⟨some 27, .indexAddr 25 (.tmp 26) (.const (.int .i64 0)), 0, "rle.go:48", #[⟨4, .data⟩], none⟩) (v := .pointer (some ⟨b, off + to, none⟩)) rfl (by kernel_rfl) (by kernel_rfl) (by kernel_rfl) (fun _ _ _ h => h) (Or.inl ⟨by rfl, fun w hw => by go_simp⟩) hS ?_
      simp only [Act.put, List.setIfInBounds_toArray, List.set_cons_zero, List.set_cons_succ]
      refine wpAnyH_take (i := 6) (oi := ⟨some 28, .load 27 (.tmp 27), 27, "rle.go:48", #[⟨5, .data⟩], none⟩) (v := .int .u32 (nthW l to : Nat)) rfl (by kernel_rfl) (by kernel_rfl) (by kernel_rfl) (fun _ _ _ h => h) (Or.inl ⟨by rfl, fun w hw => by go_simp⟩) hS ?_
      simp only [Act.put, List.setIfInBounds_toArray, List.set_cons_zero, List.set_cons_succ]
      refine wpAnyH_ready (rs := [0, 7]) (by kernel_rfl) (by simp) (AllReadyH.cons (o := ⟨some 22, .load 25 (.tmp 3), 25, "rle.go:48", #[], none⟩) rfl (fun K hK => ?_) (AllReadyH.cons (o := ⟨some 29, .buildSlice 25 2 #[(0, .tmp 25), (1, .tmp 28)], 25, "rle.go:48", #[⟨3, .data⟩, ⟨6, .data⟩], none⟩) rfl (fun K hK => ?_) AllReadyH.nil))
      · go_simp
        refine hK.out _ _ hS (fun hHeld => ?_)
        clear hK K
        try simp only [Act.put, List.setIfInBounds_toArray, List.set_cons_zero, List.set_cons_succ]
        refine wpAnyH_ready (rs := [7]) (by kernel_rfl) (by simp) (AllReadyH.cons (o := ⟨some 29, .buildSlice 25 2 #[(0, .tmp 25), (1, .tmp 28)], 25, "rle.go:48", #[⟨3, .data⟩, ⟨6, .data⟩], none⟩) rfl (fun K hK => ?_) AllReadyH.nil)
        go_simp
        refine hK.out _ _ (HNP.out _ (HBA _)) (fun hHeld => ?_)
        clear hK K
        try simp only [Act.put, List.setIfInBounds_toArray, List.set_cons_zero, List.set_cons_succ]
        refine wpAnyH_ready (rs := [8]) (by kernel_rfl) (by simp) (AllReadyH.cons (o := ⟨some 30, .call { callee := .builtin .append, args := #[.tmp 22, .tmp 29], argTypes := #[25, 25] }, 25, "rle.go:48", #[⟨0, .data⟩, ⟨7, .data⟩], none⟩) rfl (fun K hK => ?_) AllReadyH.nil)
        rw [if_pos (by rfl)]
        refine wp_append_lies _ (.tmp 22) (.tmp 29) 25 rfl (Oc + 5) 27 i0 (.int .u32 0) 1 4 Try.underlying25 hi hz0 hz1 hz2 rfl (by decide) (.slice sp3 Y.length cap3) Y.length (rowW Y) rfl (HQd.out.2.own.alloc _) ⟨_, 0, none⟩ 2 2 [.int .u32 (hd : Int), .int .u32 (nthW l to : Nat)] rfl rfl HTN.out (by simp [Value.oneCell']) (by decide) (by unfold maxLen; omega) (by omega) (Nat.le_trans hsz (((Ch.refl (fun _ => False) _).alloc _).drewN 1).size) _ rfl ?_
        intro g cap4 w4 hown hgrow hat hlt
        have HG := Lib.hid (HQ0.out.grow hsO hsz hd (nthW l to) hown hgrow hat)
        have g1 := HG.out.2.1
        have g2 := HG.out.2.2.1
        clear hown hgrow hat hlt
        refine hK.out _ _ (HNP.out _ HG.out.1) (fun hHeld => ?_)
        clear hK K
        try simp only [Act.put, List.setIfInBounds_toArray, List.set_cons_zero, List.set_cons_succ]
        refine wpAnyH_ready (rs := [9]) (by kernel_rfl) (by simp) (AllReadyH.cons (o := ⟨none, .store 25 (.tmp 3) (.tmp 30), 0, "rle.go:48", #[⟨8, .data⟩, ⟨8, .chain⟩, ⟨0, .phase⟩, ⟨1, .phase⟩, ⟨2, .phase⟩, ⟨3, .phase⟩, ⟨4, .phase⟩, ⟨5, .phase⟩, ⟨6, .phase⟩, ⟨7, .phase⟩, ⟨8, .phase⟩], none⟩) rfl (fun K hK => ?_) AllReadyH.nil)
        go_simp
        refine hK.out _ _ (HNP.out _ HG.out.2.2.2.2.2.below) (fun hHeld => ?_)
        clear hK K
        try simp only [Act.put, List.setIfInBounds_toArray, List.set_cons_zero, List.set_cons_succ]
        refine wpAnyH_done (by kernel_rfl) ?_ _
        have HV := Lib.hid HG.out.2.2.2.2.2
        have HS := Lib.hid HG.out.2.2.2.2.1
        have HF := Lib.hid (HV.out.setFr hsO (to + n))
        have HT := Lib.hid (HF.out.2.setTo hsO (to + n))
        have k2 := HV.out.c2
        have k3 := HV.out.f2
        have k4 := HV.out.c3
        have k5 := HV.out.f3
        have k6 := HF.out.2.c3
        have k7 := HF.out.2.f3
        gi_wp2
        rw [← Int.natCast_add]
        refine ⟨HPd.out.1.trans (HQ.out.2.2.2.2.2.1.trans (HS.out.trans (HF.out.1.trans HT.out.1))), ?_⟩
        show IP w Oc _ l (posR l (k + 1)) _
        rw [HP.out.1]
        have h1 := HIN.out
        rw [HHD.out] at h1
        exact ⟨_, _, _, h1, HT.out.2⟩
      · go_simp
        refine hK.out _ _ (HNP.out _ (HBA _)) (fun hHeld => ?_)
        clear hK K
        try simp only [Act.put, List.setIfInBounds_toArray, List.set_cons_zero, List.set_cons_succ]
        refine wpAnyH_ready (rs := [0]) (by kernel_rfl) (by simp) (AllReadyH.cons (o := ⟨some 22, .load 25 (.tmp 3), 25, "rle.go:48", #[], none⟩) rfl (fun K hK => ?_) AllReadyH.nil)
        go_simp
        refine hK.out _ _ (HNP.out _ (HBA _)) (fun hHeld => ?_)
        clear hK K
        try simp only [Act.put, List.setIfInBounds_toArray, List.set_cons_zero, List.set_cons_succ]
        refine wpAnyH_ready (rs := [8]) (by kernel_rfl) (by simp) (AllReadyH.cons (o := ⟨some 30, .call { callee := .builtin .append, args := #[.tmp 22, .tmp 29], argTypes := #[25, 25] }, 25, "rle.go:48", #[⟨0, .data⟩, ⟨7, .data⟩], none⟩) rfl (fun K hK => ?_) AllReadyH.nil)
        rw [if_pos (by rfl)]
        refine wp_append_lies _ (.tmp 22) (.tmp 29) 25 rfl (Oc + 5) 27 i0 (.int .u32 0) 1 4 Try.underlying25 hi hz0 hz1 hz2 rfl (by decide) (.slice sp3 Y.length cap3) Y.length (rowW Y) rfl (HQd.out.2.own.alloc _) ⟨_, 0, none⟩ 2 2 [.int .u32 (hd : Int), .int .u32 (nthW l to : Nat)] rfl rfl HTN.out (by simp [Value.oneCell']) (by decide) (by unfold maxLen; omega) (by omega) (Nat.le_trans hsz (((Ch.refl (fun _ => False) _).alloc _).drewN 1).size) _ rfl ?_
        intro g cap4 w4 hown hgrow hat hlt
        have HG := Lib.hid (HQ0.out.grow hsO hsz hd (nthW l to) hown hgrow hat)
        have g1 := HG.out.2.1
        have g2 := HG.out.2.2.1
        clear hown hgrow hat hlt
        refine hK.out _ _ (HNP.out _ HG.out.1) (fun hHeld => ?_)
        clear hK K
        try simp only [Act.put, List.setIfInBounds_toArray, List.set_cons_zero, List.set_cons_succ]
        refine wpAnyH_ready (rs := [9]) (by kernel_rfl) (by simp) (AllReadyH.cons (o := ⟨none, .store 25 (.tmp 3) (.tmp 30), 0, "rle.go:48", #[⟨8, .data⟩, ⟨8, .chain⟩, ⟨0, .phase⟩, ⟨1, .phase⟩, ⟨2, .phase⟩, ⟨3, .phase⟩, ⟨4, .phase⟩, ⟨5, .phase⟩, ⟨6, .phase⟩, ⟨7, .phase⟩, ⟨8, .phase⟩], none⟩) rfl (fun K hK => ?_) AllReadyH.nil)
        go_simp
        refine hK.out _ _ (HNP.out _ HG.out.2.2.2.2.2.below) (fun hHeld => ?_)
        clear hK K
        try simp only [Act.put, List.setIfInBounds_toArray, List.set_cons_zero, List.set_cons_succ]
        refine wpAnyH_done (by kernel_rfl) ?_ _
        have HV := Lib.hid HG.out.2.2.2.2.2
        have HS := Lib.hid HG.out.2.2.2.2.1
        have HF := Lib.hid (HV.out.setFr hsO (to + n))
        have HT := Lib.hid (HF.out.2.setTo hsO (to + n))
        have k2 := HV.out.c2
        have k3 := HV.out.f2
        have k4 := HV.out.c3
        have k5 := HV.out.f3
        have k6 := HF.out.2.c3
        have k7 := HF.out.2.f3
        gi_wp2
        rw [← Int.natCast_add]
        refine ⟨HPd.out.1.trans (HQ.out.2.2.2.2.2.1.trans (HS.out.trans (HF.out.1.trans HT.out.1))), ?_⟩
        show IP w Oc _ l (posR l (k + 1)) _
        rw [HP.out.1]
        have h1 := HIN.out
        rw [HHD.out] at h1
        exact ⟨_, _, _, h1, HT.out.2⟩
  case done =>
    rintro W ⟨pk, fr, v, hinv, hpv⟩ hD hnD hz
    rw [HH.out.2.1] at hD hnD hz
    rw [posR_end] at hinv hpv
    have c0 := hpv.c0
    have c1 := hpv.c1
    have c2 := hpv.c2
    have c3 := hpv.c3
    have hsO : Oc ≤ w.heap.size := by have := HH.out.1; omega
    have hf1 : fr ≤ l.length := hinv.2.1
    have hi1 : (fr : Int) ≤ (l.length : Int) := by omega
    have hi2 : (l.length : Int) ≤ (cap : Int) := by omega
    have mixed : Try.prog.follows .mixedOrders = true := by kernel_rfl
    have HP := Lib.hid (And.intro hinv (And.intro hpv (And.intro hD hnD)))
    clear hinv hpv hD hnD
    obtain ⟨sp1, cap1, rfl⟩ := own_val HP.out.2.1.own
    obtain ⟨seg, hseg⟩ : ∃ seg, (l.drop fr).take (l.length - fr) = seg := ⟨_, rfl⟩
    have hsl : seg.length = l.length - fr := by rw [← hseg, List.length_take, List.length_drop]; omega
    have hSL : SL W.drew (if l.length = fr then sp else Option.map (fun x => x.add fr) sp) b (off + fr) seg := by
      have h1 := (((HL.out.below HP.out.2.1.below HLB.out).drop fr).take (l.length - fr))
      rw [hseg] at h1
      refine ⟨fun h0 => ?_, h1.2⟩
      rw [if_neg (by omega), HL.out.1 (by omega), Option.map_some, Addr.add_lit]
    obtain ⟨Y, hY⟩ : ∃ Y, pk ++ othS seg = Y := ⟨_, rfl⟩
    have hpY : packS l = Y := by rw [← hY, ← hseg]; exact inv_end HP.out.1
    have hpk : pk.length ≤ 50000 := by
      have h1 := congrArg List.length hpY
      rw [← hY, List.length_append] at h1
      have := (small_any l).1; omega
    have HPd := Lib.hid (HP.out.2.1.drew hsO).2
    have hot := others_any (Oc + 5) (.slice sp1 pk.length cap1) pk seg _ b (off + fr) (l.length - fr) W.drew HPd.out.own (Nat.le_trans (by omega) hz) hSL (by omega) (by omega) (by omega) (fun _ hb => by have := own_ge HPd.out.own _ hb; have := HLB.out (by omega); omega)
    rw [hY, hsl] at hot
    have HO := Lib.hid hot
    clear hot
    have hne : ∀ g, (Value.slice sp1 pk.length cap1).ownBlock = some g → g ≠ Oc + 5 := fun g hg e => by subst e; exact HP.out.2.2.2 (.inr ⟨_, c1, hg⟩)
    have HNE := Lib.hid (And.intro hne (And.intro hpY hsl))
    clear hne hseg hsl hSL hY hpY
    gi_wp2
    refine wpIn_wide.2 (wp_region_noPanic ?_)
    go_region_held3 (fun w' => w'.cell? ⟨Oc, 0, none⟩ = some (.slice sp l.length cap) ∧ w'.cell? ⟨Oc + 1, 0, none⟩ = some (.slice sp1 pk.length cap1) ∧ w'.cell? ⟨Oc + 1 + 1, 0, none⟩ = some (.int .i64 fr) ∧ w'.cell? ⟨Oc + 1 + 1 + 1, 0, none⟩ = some (.int .i64 (l.length : Nat))) (first | exact ⟨c0, c1, c2, c3⟩ | exact HS5 | fail) (first | (go_at_call 65; refine HO.out.mono ?_; rintro e w5 ⟨v5, rfl, ho5, hc5, hn5⟩; obtain ⟨sp5, cap5, rfl⟩ := own_val ho5; have HS5 := HPd.out.after hc5; have H5 := Lib.hid (And.intro ho5 (And.intro hc5 hn5)); clear ho5 hc5 hn5; dsimp only) | fail)
    refine NoPanic.normal ?_
    clear HO
    generalize (if l.length = fr then sp else Option.map (fun x => x.add fr) sp) = pf
    gi_wp2
    rw [HH.out.2.1]
    have hp : Ch (fun j => j = Oc + 5) w5 (w5.putObj (Oc + 5) (.deferred none)) := (Ch.refl _ _).putObj _ _ rfl
    have hzz : Oc + 5 < W.heap.size := by omega
    have h5b : w5.heap[Oc + 5]? = some (.deferred (some [])) := (H5.out.2.1.block (Oc + 5) hzz fun h => HNE.out.1 _ h rfl).trans HP.out.2.2.1
    refine ⟨by simp, .inl ⟨_, _, rfl, run_takeDeferred h5b, ?_⟩⟩
    rw [HNE.out.2.1, ← HH.out.1]
    refine ⟨.slice sp5 Y.length cap5, ?_, _, rfl, ?_, ?_⟩
    · simp [results, Try.results41, go_sem]
    · refine own_same (own_mono H5.out.1 (Nat.le_add_right Oc 5)) fun g hg => hp.block g (H5.out.1.lt g hg).2 fun e => ?_
      subst e
      rcases H5.out.2.2 _ hg with h | h
      · exact HNE.out.1 _ h rfl
      · have : W.heap.size ≤ Oc + 5 := h
        omega
    · refine (HPd.out.below.trans (H5.out.2.1.below (fun j hj e => by have := own_ge HPd.out.own j e; omega) ?_)).trans (hp.below (fun j hj e => by have e' : j = Oc + 5 := e; omega) ?_)
      · show Oc ≤ W.heap.size
        omega
      · have : W.heap.size ≤ w5.heap.size := H5.out.2.1.size
        omega
end Go.Proofs.Ytkbmgilceioieaa
