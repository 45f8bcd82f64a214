/- Cells that lie in a row, and slices. No statement about the program. -/
import Derived.Test.YtcipkkeegbfaeaaVR
namespace Go.Proofs.Ytcipkkeegbfaeaa
open Go.RowKit

/-- Cells that lie from a place on. -/
def At (w : World) (b off : Nat) (l : List Value) : Prop := ∀ j u, l[j]? = some u → w.cell? ⟨b, off + j, none⟩ = some u
theorem At.keep {T : Nat → Prop} {w w' : World} {b off : Nat} {l : List Value} (h : At w b off l) (c : Ch T w w') (hT : ¬ T b) : At w' b off l := fun j u hu => c.cell (h j u hu) hT
/-- Where a slice lies. -/
structure Src where
  sp : Option Addr
  b : Nat
  o : Nat
  c : Nat
/-- A slice of so many elements of so many cells lies there. -/
structure SlAt (w : World) (V : Nat → Prop) (s : Src) (n : Nat) : Prop where
  at_ : 0 < n → s.sp = some ⟨s.b, s.o, none⟩ ∧ s.b < w.heap.size ∧ ¬ V s.b
  sm : n ≤ 9223372036854775807
theorem SlAt.keep {T : Nat → Prop} {V : Nat → Prop} {w w' : World} {s : Src} {n : Nat} (h : SlAt w V s n) (c : Ch T w w') : SlAt w' V s n :=
  ⟨fun h0 => ⟨(h.at_ h0).1, Nat.lt_of_lt_of_le (h.at_ h0).2.1 c.size, (h.at_ h0).2.2⟩, h.sm⟩
theorem SlAt.more {V V' : Nat → Prop} {w : World} {s : Src} {n : Nat} (h : SlAt w V s n) (hV : ∀ j, j < w.heap.size → V' j → V j) : SlAt w V' s n :=
  ⟨fun h0 => ⟨(h.at_ h0).1, (h.at_ h0).2.1, fun hv => (h.at_ h0).2.2 (hV _ (h.at_ h0).2.1 hv)⟩, h.sm⟩
end Go.Proofs.Ytcipkkeegbfaeaa
