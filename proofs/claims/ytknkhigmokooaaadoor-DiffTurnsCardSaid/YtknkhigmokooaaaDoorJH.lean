/- The contract of image's edgeMayBe. -/
import Derived.Test.YtknkhigmokooaaaDoorJG
namespace Go.Proofs.YtknkhigmokooaaaDoor
open Go.RowKit

theorem exec_load_mid {P : Program} {o : Oper} {a : Act} {w : World} (ty : TypeId) (x : Operand) (ho : o.op = .load ty x) (b off : Nat) (hx : a.eval x = .pointer (some ⟨b, off, none⟩)) (cs : List Value) (d : TypeDesc)
    (hc : At w b off cs) (hu : P.underlying ty = some d) (hd : d.isRow = true) (hi : (P.info? ty).map (·.size) = some cs.length) :
    (execOp a.eval o).run P w = .ok (Next.value (.agg cs.toArray)) w := by
  unfold execOp
  simp only [ho, hx, Instr.loadAt, Instr.sureAddr, Sem.run_bind, Sem.run_pure, Result.andThen_ok, run_loadVar_mid w b off ty cs d hc hu hd hi]
theorem exec_row_load {P : Program} {o : Oper} {a : Act} {w : World} (ty : TypeId) (x : Operand) (ho : o.op = .load ty x) (g : Nat) (hx : a.eval x = .pointer (some ⟨g, 0, none⟩)) (t : TypeId) (cs : Array Value) (fr : Nat × Nat) (d : TypeDesc)
    (hg : w.heap[g]? = some (.cells cs t fr)) (hu : P.underlying ty = some d) (hd : (match d with | .struct _ | .array _ _ => true | _ => false) = true) (hi : (P.info? ty).map (·.size) = some cs.size) :
    (execOp a.eval o).run P w = .ok (Next.value (.agg cs)) w := by
  unfold execOp
  simp only [ho, hx, Instr.loadAt, Instr.sureAddr, Sem.run_bind, Sem.run_pure, Result.andThen_ok, run_loadVar_row w g t ty cs fr d hg hu hd hi]
theorem edgeC_offs (e : EdgeM) (j : Nat) (u : Value) (h : (rowZ e.offs)[j]? = some u) : (edgeC e).toArray[3 + j]? = some u := by
  have hl : j < (rowZ e.offs).length := by
    rcases Nat.lt_or_ge j (rowZ e.offs).length with h1 | h1
    · exact h1
    · rw [List.getElem?_eq_none h1] at h; simp at h
  unfold edgeC
  rw [show 3 + j = j + 3 by omega]
  simp [List.getElem?_append_left hl, h]
theorem edgeC_map (e : EdgeM) (h16 : e.offs.length = 16) (j : Nat) (u : Value) (h : (rowZ e.map)[j]? = some u) : (edgeC e).toArray[19 + j]? = some u := by
  have hl : (rowZ e.offs).length = 16 := by rw [rowZ_len, h16]
  unfold edgeC
  rw [show 19 + j = (16 + j) + 3 by omega]
  simp [List.getElem?_append_right (show (rowZ e.offs).length ≤ 16 + j by omega), hl, h]
/-- Is there such a mode? -/
def isMode (x : Img) (m : Int) : Bool := decide (0 ≤ m ∧ m < (x.modes.length : Int))
def qlen (x : Img) (m : Int) : Nat := (x.m m.toNat).qs.length
/-- May an image's k-th edge be? -/
def edgeOK (x : Img) (k : Nat) : Bool :=
  !(decide ((x.e k).frm = (x.e k).dst)) && (isMode x (x.e k).frm && (isMode x (x.e k).dst && (inB (x.e k).prot 1 3 && (decide ((ixE x (x.e k).frm (x.e k).dst).getD 0 = k) &&
    (mapOK (x.e k).map (qlen x (x.e k).frm : Int) (qlen x (x.e k).dst : Int) && offOK (x.e k).offs (x.e k).prot (tasksM x (x.e k).dst &&& ~~~tasksM x (x.e k).frm))))))
end Go.Proofs.YtknkhigmokooaaaDoor
