/- Rows of an edge's cells. No statement about the program's functions. -/
import Derived.Test.YtmaackdfhmpicaaIB
namespace Go.Proofs.Ytmaackdfhmpicaa
open Go.RowKit

theorem rowZ_len (l : List Int) : (rowZ l).length = l.length := by simp [rowZ]
theorem rowZ_one (l : List Int) : (rowZ l).all (·.oneCell') = true := by
  induction l with
  | nil => rfl
  | cons a l ih => simp [rowZ, Value.oneCell']
theorem edgeC_len {e : EdgeM} (h1 : e.offs.length = 16) (h2 : e.map.length = 4) : (edgeC e).length = 23 := by
  unfold edgeC
  simp only [List.length_cons, List.length_append, rowZ_len, h1, h2]
theorem edgeC_one (e : EdgeM) : (edgeC e).all (·.oneCell') = true := by
  unfold edgeC
  simp only [List.all_cons, List.all_append, rowZ_one, Bool.and_true]
  rfl
theorem clsB {w wa : World} (h : Below w.heap.size w wa) : Below w.heap.size w wa.drew := below_dn h 1
theorem modeAt {w : World} {V : Nat → Prop} {x : Img} {S : ImgS} (h : ImgAt w V x S) (k : Nat) (hk : k < x.modes.length) : At w S.m.b (S.m.o + k * 2) [.int .u32 (w32 (x.m k).tasks), .slice (S.q k).sp (x.m k).qs.length (S.q k).c] := fun j u hu => by
  rcases j with _ | _ | j
  · obtain rfl : _ = u := by simpa using hu
    exact (h.md k hk).1
  · obtain rfl : _ = u := by simpa using hu
    exact (h.md k hk).2.1
  · simp at hu
end Go.Proofs.Ytmaackdfhmpicaa
