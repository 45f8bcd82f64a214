/- The contracts of image's queuesMayBe and what it calls, and of ref10's queues. -/
import Derived.Test.YtmaackdfhmpicaaJA
namespace Go.Proofs.Ytmaackdfhmpicaa
open Go.RowKit

def qth (l : List (Int × Int)) (k : Nat) : Int × Int := l.getD k (0, 0)
/-- A row of queues lies there. -/
structure QAt (w : World) (V : Nat → Prop) (s : Src) (l : List (Int × Int)) : Prop where
  sl : SlAt w V s l.length
  q : ∀ j, j < l.length → w.cell? ⟨s.b, s.o + j * 2, none⟩ = some (.int .i64 (qth l j).1) ∧ w.cell? ⟨s.b, s.o + j * 2 + 1, none⟩ = some (.int .i64 (qth l j).2)
theorem QAt.keep {V : Nat → Prop} {w w' : World} {s : Src} {l : List (Int × Int)} (h : QAt w V s l) (c : Ch V w w') : QAt w' V s l :=
  ⟨h.sl.keep c, fun j hj => ⟨c.cell (h.q j hj).1 ((h.sl.at_ (by omega)).2.2), c.cell (h.q j hj).2 ((h.sl.at_ (by omega)).2.2)⟩⟩
theorem QAt.new {V : Nat → Prop} {w w' : World} {s : Src} {l : List (Int × Int)} (h : QAt w V s l) (hb : Below w.heap.size w w') : QAt w' V s l := h.keep (Ch.new hb)
theorem ImgAt.qat {w : World} {V : Nat → Prop} {x : Img} {S : ImgS} (h : ImgAt w V x S) (k : Nat) (hk : k < x.modes.length) : QAt w V (S.q k) (x.m k).qs := ⟨(h.md k hk).2.2, h.qu k hk⟩
def queueOK (q : Int × Int) : Bool := inB q.1 1 16 && inB q.2 1 3
def queuesOK (l : List (Int × Int)) : Bool := decide (l.length ≤ 4) && l.all queueOK
theorem all_split {l : List (Int × Int)} {k : Nat} (hk : k < l.length) (h : queueOK (qth l k) = false) : l.all queueOK = false := by
  rw [List.all_eq_false]
  refine ⟨l[k], List.getElem_mem hk, ?_⟩
  have : qth l k = l[k] := by unfold qth; rw [List.getD_eq_getElem?_getD, List.getElem?_eq_getElem hk]; rfl
  rw [← this, h]; decide
theorem all_whole {l : List (Int × Int)} (h : ∀ k, k < l.length → queueOK (qth l k) = true) : l.all queueOK = true := by
  rw [List.all_eq_true]
  intro q hq
  obtain ⟨k, hk, rfl⟩ := List.getElem_of_mem hq
  have : qth l k = l[k] := by unfold qth; rw [List.getD_eq_getElem?_getD, List.getElem?_eq_getElem hk]; rfl
  rw [← this]; exact h k hk
end Go.Proofs.Ytmaackdfhmpicaa
