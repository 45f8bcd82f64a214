/- Images: what they are as plain data, and where one lies in memory. No statement about the program's functions. -/
import Derived.Test.YtmaackdfhmpicaaVR
import Derived.Test.YtmaackdfhmpicaaVS
import Derived.Test.YtmaackdfhmpicaaMMath
namespace Go.Proofs.Ytmaackdfhmpicaa
open Go.RowKit

structure TaskM where
  per : Int
  dl : Int
  cost : Int
  lon : List Int
structure ModeM where
  tasks : BitVec 32
  qs : List (Int × Int)
structure EdgeM where
  frm : Int
  dst : Int
  prot : Int
  offs : List Int
  map : List Int
structure Img where
  res : Int
  tasks : List TaskM
  modes : List ModeM
  edges : List EdgeM
instance : Inhabited TaskM := ⟨⟨0, 0, 0, [0, 0, 0, 0, 0, 0, 0, 0]⟩⟩
instance : Inhabited ModeM := ⟨⟨0#32, []⟩⟩
instance : Inhabited EdgeM := ⟨⟨0, 0, 0, [0, 0, 0, 0, 0, 0, 0, 0, 0, 0, 0, 0, 0, 0, 0, 0], [0, 0, 0, 0]⟩⟩
def Img.t (x : Img) (k : Nat) : TaskM := x.tasks.getD k default
def Img.m (x : Img) (k : Nat) : ModeM := x.modes.getD k default
def Img.e (x : Img) (k : Nat) : EdgeM := x.edges.getD k default
def rowZ (l : List Int) : List Value := l.map (.int .i64)
def taskC (t : TaskM) : List Value := .int .i64 t.per :: .int .i64 t.dl :: .int .i64 t.cost :: rowZ t.lon
def edgeC (e : EdgeM) : List Value := .int .i64 e.frm :: .int .i64 e.dst :: .int .i64 e.prot :: (rowZ e.offs ++ rowZ e.map)
/-- Where an image's parts lie. -/
structure ImgS where
  t : Src
  m : Src
  e : Src
  q : Nat → Src
/-- The four cells of an image. -/
def imgC (x : Img) (S : ImgS) : Array Value := #[.int .i64 x.res, .slice S.t.sp x.tasks.length S.t.c, .slice S.m.sp x.modes.length S.m.c, .slice S.e.sp x.edges.length S.e.c]
/-- An image's parts lie there, none of them in a block of V. -/
structure ImgAt (w : World) (V : Nat → Prop) (x : Img) (S : ImgS) : Prop where
  st : SlAt w V S.t x.tasks.length
  sm : SlAt w V S.m x.modes.length
  se : SlAt w V S.e x.edges.length
  tk : ∀ k, k < x.tasks.length → At w S.t.b (S.t.o + k * 11) (taskC (x.t k)) ∧ (x.t k).lon.length = 8
  md : ∀ k, k < x.modes.length → w.cell? ⟨S.m.b, S.m.o + k * 2, none⟩ = some (.int .u32 (w32 (x.m k).tasks)) ∧ w.cell? ⟨S.m.b, S.m.o + k * 2 + 1, none⟩ = some (.slice (S.q k).sp (x.m k).qs.length (S.q k).c) ∧ SlAt w V (S.q k) (x.m k).qs.length
  qu : ∀ k, k < x.modes.length → ∀ j, j < (x.m k).qs.length → w.cell? ⟨(S.q k).b, (S.q k).o + j * 2, none⟩ = some (.int .i64 ((x.m k).qs.getD j (0, 0)).1) ∧ w.cell? ⟨(S.q k).b, (S.q k).o + j * 2 + 1, none⟩ = some (.int .i64 ((x.m k).qs.getD j (0, 0)).2)
  ed : ∀ k, k < x.edges.length → At w S.e.b (S.e.o + k * 23) (edgeC (x.e k)) ∧ (x.e k).offs.length = 16 ∧ (x.e k).map.length = 4
theorem ImgAt.keep {V : Nat → Prop} {w w' : World} {x : Img} {S : ImgS} (h : ImgAt w V x S) (c : Ch V w w') : ImgAt w' V x S where
  st := h.st.keep c
  sm := h.sm.keep c
  se := h.se.keep c
  tk := fun k hk => ⟨(h.tk k hk).1.keep c (h.st.at_ (by omega)).2.2, (h.tk k hk).2⟩
  md := fun k hk => ⟨c.cell (h.md k hk).1 (h.sm.at_ (by omega)).2.2, c.cell (h.md k hk).2.1 (h.sm.at_ (by omega)).2.2, (h.md k hk).2.2.keep c⟩
  qu := fun k hk j hj => ⟨c.cell (h.qu k hk j hj).1 (((h.md k hk).2.2.at_ (by omega)).2.2), c.cell (h.qu k hk j hj).2 (((h.md k hk).2.2.at_ (by omega)).2.2)⟩
  ed := fun k hk => ⟨(h.ed k hk).1.keep c (h.se.at_ (by omega)).2.2, (h.ed k hk).2⟩
theorem ImgAt.more {V V' : Nat → Prop} {w : World} {x : Img} {S : ImgS} (h : ImgAt w V x S) (hV : ∀ j, j < w.heap.size → V' j → V j) : ImgAt w V' x S where
  st := h.st.more hV
  sm := h.sm.more hV
  se := h.se.more hV
  tk := h.tk
  md := fun k hk => ⟨(h.md k hk).1, (h.md k hk).2.1, (h.md k hk).2.2.more hV⟩
  qu := h.qu
  ed := h.ed
theorem ImgAt.new {V : Nat → Prop} {w w' : World} {x : Img} {S : ImgS} (h : ImgAt w V x S) (hb : Below w.heap.size w w') : ImgAt w' V x S := h.keep (Ch.new hb)
end Go.Proofs.Ytmaackdfhmpicaa
