/- Rows of cells. No statement about the program. -/
import Derived.Test.YtmaackdfhmpicaaVary
import Derived.Test.YtmaackdfhmpicaaBox
import Derived.Test.YtmaackdfhmpicaaLast
import Derived.Laws.ResultCell
import Derived.Deep.MidRow
import Derived.Lib.Hide
import Derived.LoopTactic
import Derived.RegionTactic
import Derived.Deep.LoopGhost
import Derived.Handy
import Derived.IntWalk
import Derived.BigQuiet
import Derived.Deep.QuietTactic
import Derived.Deep.CutRange
import Derived.Deep.CutBlock
import Derived.Deep.RegionWith
import Derived.Deep.RegionHeld3
namespace Go.Proofs.Ytmaackdfhmpicaa
open Go.RowKit

def RowAt (w : World) (b : Nat) (t : TypeId) (cs : Array Value) : Prop := w.heap[b]? = some (.cells cs t (0, 0))
theorem ch_setRow (w : World) (A : Nat) (cs : Array Value) : Ch (fun j => j = A) w (w.setRow A cs) :=
  ⟨rfl, rfl, rfl, by simp [World.setRow], fun k _ hn => setRow_other w A k cs hn⟩
theorem RowAt.lt {w : World} {b : Nat} {t : TypeId} {cs : Array Value} (h : RowAt w b t cs) : b < w.heap.size := (Array.getElem?_eq_some_iff.1 h).1
theorem RowAt.new {w w' : World} {b : Nat} {t : TypeId} {cs : Array Value} (h : RowAt w b t cs) (hb : Below w.heap.size w w') : RowAt w' b t cs := (hb.block b h.lt).trans h
theorem RowAt.keep {T : Nat → Prop} {w w' : World} {b : Nat} {t : TypeId} {cs : Array Value} (h : RowAt w b t cs) (c : Ch T w w') (hT : ¬ T b) : RowAt w' b t cs := (c.block b h.lt hT).trans h
theorem RowAt.put {w : World} {b : Nat} {t : TypeId} {cs vs : Array Value} (h : RowAt w b t cs) : RowAt (w.setRow b vs) b t vs := setRow_heap _ _ _ _ t (0, 0) h
theorem RowAt.mk (w : World) (t : TypeId) (cs : Array Value) : RowAt (w.alloc (.cells cs t)) w.heap.size t cs := heap_alloc_new w _
theorem RowAt.cell {w : World} {b : Nat} {t : TypeId} {cs : Array Value} (h : RowAt w b t cs) (j : Nat) : w.cell? ⟨b, j, none⟩ = cs[j]? := cell_of_row w b j _ _ _ h
theorem RowAt.fr {w : World} {b : Nat} {t : TypeId} {cs : Array Value} (h : RowAt w b t cs) (j : Nat) : w.frozen? ⟨b, j, none⟩ = false := frozen_of_row w b j _ _ h
theorem RowAt.setC {w : World} {b : Nat} {t : TypeId} {cs : Array Value} (h : RowAt w b t cs) (j : Nat) (v : Value) : RowAt (w.setCell ⟨b, j, none⟩ v) b t (cs.setIfInBounds j v) := heap_setCell_same w b j cs t v h
theorem exec_load_row {P : Program} {o : Oper} {a : Act} {w : World} (ty : TypeId) (x : Operand) (ho : o.op = .load ty x) (g : Nat) (hx : a.eval x = .pointer (some ⟨g, 0, none⟩)) (t : TypeId) (cs : Array Value) (fr : Nat × Nat) (d : TypeDesc)
    (hg : w.heap[g]? = some (.cells cs t fr)) (hu : P.underlying ty = some d) (hd : (match d with | .struct _ | .array _ _ => true | _ => false) = true) (hi : (P.info? ty).map (·.size) = some cs.size) :
    (execOp a.eval o).run P w = .ok (Next.value (.agg cs)) w := by
  unfold execOp
  simp only [ho, hx, Instr.loadAt, Instr.sureAddr, Sem.run_bind, Sem.run_pure, Result.andThen_ok, run_loadVar_row w g t ty cs fr d hg hu hd hi]
theorem wpList_load_want {P : Program} {ops : Array Oper} {rest : List Oper} {o : Oper} {a : Act} {w : World} {Q : Exit → Act → World → Prop} (hw : Region.wanted o (yielded ops a.tmps) = true) (ty : TypeId) (x : Operand) (ho : o.op = .load ty x)
    (g : Nat) (hx : a.eval x = .pointer (some ⟨g, 0, none⟩)) (t : TypeId) (cs : Array Value) (fr : Nat × Nat) (d : TypeDesc) (hg : w.heap[g]? = some (.cells cs t fr))
    (hu : P.underlying ty = some d) (hd : (match d with | .struct _ | .array _ _ => true | _ => false) = true) (hi : (P.info? ty).map (·.size) = some cs.size)
    (h : wpList P ops Q rest (a.put o.dst (.agg cs)) w) : wpList P ops Q (o :: rest) a w :=
  wpList_step fun _ hK => by rw [if_pos hw]; exact wp_load_row ty x ho g hx t cs fr d hg hu hd hi (hK _ _ h)
theorem below_row {A n : Nat} {w w1 : World} (h : Below n w w1) (hn : n ≤ w.heap.size) (hA : n ≤ A) (cs : Array Value) : Below n w (w1.setRow A cs) := h.trans ((ch_setRow w1 A cs).below (fun j hj e => by omega) (Nat.le_trans hn h.size))
theorem alloc_row (w : World) (z c : Array Value) (t : TypeId) : Below w.heap.size w ((w.alloc (.cells z t)).setRow w.heap.size c) ∧ RowAt ((w.alloc (.cells z t)).setRow w.heap.size c) w.heap.size t c :=
  ⟨below_row ((Below.refl _ _).alloc (Nat.le_refl _) _) (Nat.le_refl _) (Nat.le_refl _) c, (RowAt.mk w t z).put⟩
theorem two_alloc {w w3 : World} {a b : Array Value} {ta tb : TypeId} (h : Below ((w.alloc (.cells a ta)).alloc (.cells b tb)).heap.size ((w.alloc (.cells a ta)).alloc (.cells b tb)) w3) :
    Below w.heap.size w w3 ∧ RowAt w3 w.heap.size ta a ∧ RowAt w3 (w.heap.size + 1) tb b := by
  have b0 : Below w.heap.size w ((w.alloc (.cells a ta)).alloc (.cells b tb)) := ((Below.refl _ w).alloc (Nat.le_refl _) _).alloc (by simp) _
  have r1 := ((RowAt.mk w ta a).new ((Below.refl _ _).alloc (Nat.le_refl _) (.cells b tb))).new h
  have r2 := RowAt.mk (w.alloc (.cells a ta)) tb b
  rw [World.size_alloc] at r2
  exact ⟨b0.trans (h.mono b0.size), r1, r2.new h⟩
theorem below_alloc {n : Nat} {w w' : World} (h : Below n w w') (hn : n ≤ w.heap.size) (o : Obj) : Below n w (w'.alloc o) := h.alloc (Nat.le_trans hn h.size) o
end Go.Proofs.Ytmaackdfhmpicaa
