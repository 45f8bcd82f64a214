/- Several texts in one: MMath, IA, MSet, VH, IG, IB, VE, VA, IC, VB. -/
import Derived.WalkKit
import Derived.Laws.BitsAllLaws
import Derived.Lib.TrailingZeros
import Derived.Test.YtchmdnmifpjfkaaDoorPk01
import Derived.Test.YtchmdnmifpjfkaaDoorProg
import Derived.ProofKit
import Derived.LoopTactic
import Derived.RegionTactic
import Derived.Deep.LoopGhost
import Derived.Below
import Derived.Outline
import Derived.Lib.Hide
import Derived.Handy
import Derived.IntWalk
import Derived.Deep.MidRow
import Derived.Laws.ResultCell
import Derived.Deep.RegionWith
import Derived.Deep.RegionHeld3
import Derived.BigQuiet
import Derived.Deep.QuietTactic
/- Sets of numbers as words of 32 bits: plain facts. No statement about the program. -/
namespace Go.Proofs.YtchmdnmifpjfkaaDoor

def w32 (x : BitVec 32) : Int := (x.toNat : Int)
theorem w32_lt (x : BitVec 32) : 0 ≤ w32 x ∧ w32 x < 4294967296 := by unfold w32; have := x.isLt; omega
theorem ofInt_w32 (x : BitVec 32) : BitVec.ofInt 32 (w32 x) = x := by unfold w32; simp
theorem wrap_w32 (x : BitVec 32) : IntKind.u32.wrap (x.toNat : Int) = w32 x := by
  have := x.isLt; rw [IntKind.wrap_u32']; unfold w32; omega
theorem bits_and32 (x y : Int) : bits .and .u32 x y = w32 (BitVec.ofInt 32 x &&& BitVec.ofInt 32 y) := wrap_w32 _
theorem bits_or32 (x y : Int) : bits .or .u32 x y = w32 (BitVec.ofInt 32 x ||| BitVec.ofInt 32 y) := wrap_w32 _
theorem bits_andNot32 (x y : Int) : bits .andNot .u32 x y = w32 (BitVec.ofInt 32 x &&& ~~~BitVec.ofInt 32 y) := wrap_w32 _
theorem bits_xor32 (x y : Int) : bits .xor .u32 x y = w32 (BitVec.ofInt 32 x ^^^ BitVec.ofInt 32 y) := wrap_w32 _
theorem and32 (x y : BitVec 32) : bits .and .u32 (w32 x) (w32 y) = w32 (x &&& y) := by rw [bits_and32, ofInt_w32, ofInt_w32]
theorem or32 (x y : BitVec 32) : bits .or .u32 (w32 x) (w32 y) = w32 (x ||| y) := by rw [bits_or32, ofInt_w32, ofInt_w32]
theorem andNot32 (x y : BitVec 32) : bits .andNot .u32 (w32 x) (w32 y) = w32 (x &&& ~~~y) := by rw [bits_andNot32, ofInt_w32, ofInt_w32]
theorem not32 (x : BitVec 32) : bits .xor .u32 IntKind.u32.max (w32 x) = w32 (~~~x) := by
  rw [bits_xor32, ofInt_w32]
  congr 1
theorem w32_inj {x y : BitVec 32} : w32 x = w32 y ↔ x = y := by
  unfold w32
  constructor
  · intro h; apply BitVec.eq_of_toNat_eq; omega
  · rintro rfl; rfl
theorem w32_zero : (0 : Int) = w32 0#32 := rfl
theorem shl_one (n : Nat) (_hn : n ≤ 32) : (2 : Int) ^ n % (4294967296 : Int) = w32 (1#32 <<< n) := by
  unfold w32
  rw [BitVec.toNat_shiftLeft, Nat.shiftLeft_eq]
  simp
theorem add32 (x y : BitVec 32) : (w32 x + w32 y) % (4294967296 : Int) = w32 (x + y) := by
  unfold w32
  rw [BitVec.toNat_add]
  omega

/-- The set of one number, or none. -/
def onl (n : Int) : BitVec 32 := if 0 ≤ n ∧ n < 32 then 1#32 <<< n.toNat else 0#32
theorem onl_bit (n : Int) (i : Nat) (hi : i < 32) : (onl n).getLsbD i = decide ((i : Int) = n) := by
  unfold onl
  by_cases h : 0 ≤ n ∧ n < 32
  · rw [if_pos h, BitVec.getLsbD_shiftLeft]
    by_cases e : (i : Int) = n
    · have : n.toNat = i := by omega
      simp [hi, e, this]
    · by_cases hl : i < n.toNat
      · simp [hl, e]
      · have : i - n.toNat ≠ 0 := by omega
        simp [e, this]
  · rw [if_neg h]
    have : ¬ ((i : Int) = n) := by omega
    simp [this]

/-- The numbers below n for which p holds. -/
def pre (p : Nat → Bool) : Nat → BitVec 32
  | 0 => 0#32
  | n + 1 => if p n then pre p n ||| 1#32 <<< n else pre p n
theorem one_bit (n i : Nat) (hi : i < 32) : (1#32 <<< n).getLsbD i = decide (i = n) := by
  rw [BitVec.getLsbD_shiftLeft]
  by_cases e : i = n
  · subst e; simp [hi]
  · by_cases hl : i < n
    · simp [hl, e]
    · have : i - n ≠ 0 := by omega
      simp [e, this]
theorem pre_bit (p : Nat → Bool) (n i : Nat) (hi : i < 32) : (pre p n).getLsbD i = (decide (i < n) && p i) := by
  induction n with
  | zero => simp [pre]
  | succ n ih =>
    unfold pre
    by_cases hp : p n = true
    · rw [if_pos hp, BitVec.getLsbD_or, ih, one_bit n i hi]
      by_cases e : i = n
      · subst e; simp [hp]
      · have : (i < n + 1) ↔ (i < n) := by omega
        simp [e, this]
    · rw [if_neg hp, ih]
      by_cases e : i = n
      · subst e; simp [hp]
      · have : (i < n + 1) ↔ (i < n) := by omega
        simp [this]
theorem pre_ext (p q : Nat → Bool) (n : Nat) (h : ∀ i, i < n → p i = q i) : pre p n = pre q n := by
  induction n with
  | zero => rfl
  | succ n ih =>
    unfold pre
    rw [h n (by omega), ih (fun i hi => h i (by omega))]
theorem pre_add (p : Nat → Bool) (n : Nat) (hn : n < 32) : (w32 (pre p n) + w32 (1#32 <<< n)) % (4294967296 : Int) = w32 (pre p n ||| 1#32 <<< n) := by
  rw [add32]
  congr 1
  apply BitVec.add_eq_or_of_and_eq_zero
  apply BitVec.eq_of_getLsbD_eq; intro i hi
  rw [BitVec.getLsbD_and, pre_bit p n i hi, one_bit n i hi]
  by_cases e : i = n
  · subst e; simp
  · simp [e]

/-- A set's numbers below n, rising. -/
def lst (x : BitVec 32) (n : Nat) : List Nat := (List.range n).filter x.getLsbD
theorem lst_succ (x : BitVec 32) (n : Nat) : lst x (n + 1) = if x.getLsbD n then lst x n ++ [n] else lst x n := by
  unfold lst
  rw [List.range_succ, List.filter_append]
  cases h : x.getLsbD n <;> simp [h]
theorem mem_lst (x : BitVec 32) (n i : Nat) : i ∈ lst x n ↔ i < n ∧ x.getLsbD i = true := by
  unfold lst; simp [List.mem_filter]
theorem lst_len (x : BitVec 32) (n : Nat) : (lst x n).length ≤ n := by
  unfold lst; have := List.length_filter_le x.getLsbD (List.range n); simpa using this
/-- As ints. -/
def ints (l : List Nat) : List Int := l.map Int.ofNat
theorem mem_ints (l : List Nat) (n : Int) : n ∈ ints l ↔ 0 ≤ n ∧ n.toNat ∈ l := by
  unfold ints
  rw [List.mem_map]
  constructor
  · rintro ⟨k, hk, rfl⟩; simpa using hk
  · rintro ⟨h, hk⟩; exact ⟨n.toNat, hk, by simp; omega⟩

/-- The set of the numbers of a row. -/
def ofL (l : List Int) : BitVec 32 := l.foldl (fun s n => s ||| onl n) 0#32
theorem ofL_from (l : List Int) (s : BitVec 32) (i : Nat) (hi : i < 32) : (l.foldl (fun s n => s ||| onl n) s).getLsbD i = (s.getLsbD i || decide ((i : Int) ∈ l)) := by
  induction l generalizing s with
  | nil => simp
  | cons n l ih =>
    rw [List.foldl_cons, ih, BitVec.getLsbD_or, onl_bit n i hi]
    by_cases e : (i : Int) = n <;> simp [e]
theorem ofL_bit (l : List Int) (i : Nat) (hi : i < 32) : (ofL l).getLsbD i = decide ((i : Int) ∈ l) := by
  unfold ofL; rw [ofL_from l _ i hi]; simp
/-- As the reference makes it. -/
def ofR (l : List Int) : BitVec 32 := pre (fun k => decide ((k : Int) ∈ l)) 32
theorem ofR_bit (l : List Int) (i : Nat) (hi : i < 32) : (ofR l).getLsbD i = decide ((i : Int) ∈ l) := by
  unfold ofR; rw [pre_bit _ _ i hi]; simp [hi]
theorem ofL_eq (l : List Int) : ofL l = ofR l := by
  apply BitVec.eq_of_getLsbD_eq; intro i hi
  rw [ofL_bit l i hi, ofR_bit l i hi]

/-- Those above a number and below another one. -/
def btw (x : BitVec 32) (a b : Int) : BitVec 32 := pre (fun k => x.getLsbD k && (decide (a < (k : Int)) && decide ((k : Int) < b))) 32
theorem btw_bit (x : BitVec 32) (a b : Int) (i : Nat) (hi : i < 32) : (btw x a b).getLsbD i = (x.getLsbD i && (decide (a < (i : Int)) && decide ((i : Int) < b))) := by
  unfold btw; rw [pre_bit _ _ i hi]; simp [hi]
def mid (x : BitVec 32) (a b : Int) : List Int := (ints (lst x 32)).filter fun k => decide (a < k) && decide (k < b)
theorem ofR_mid (x : BitVec 32) (a b : Int) : ofR (mid x a b) = btw x a b := by
  apply BitVec.eq_of_getLsbD_eq; intro i hi
  rw [ofR_bit _ i hi, btw_bit _ _ _ i hi]
  have : (i : Int) ∈ mid x a b ↔ (x.getLsbD i = true ∧ (a < (i : Int) ∧ (i : Int) < b)) := by
    unfold mid
    rw [List.mem_filter, mem_ints, Int.toNat_natCast, mem_lst]
    simp [hi]
  rw [Bool.eq_iff_iff, decide_eq_true_iff, this]
  simp

/-- The numbers below m. -/
def low (m : Nat) : BitVec 32 := BitVec.ofNat 32 (2 ^ m - 1)
theorem low_bit (m i : Nat) (hi : i < 32) : (low m).getLsbD i = decide (i < m) := by
  unfold low
  rw [BitVec.getLsbD_ofNat, Nat.testBit_two_pow_sub_one]
  simp [hi]
def cut (n : Int) : Nat := (min (max n 0) 32).toNat
theorem low_int (m : Nat) (hm : m ≤ 32) : ((2 : Int) ^ m % (4294967296 : Int) - 1) % (4294967296 : Int) = w32 (low m) := by
  unfold w32 low
  rw [BitVec.toNat_ofNat]
  have h1 : 0 < 2 ^ m := Nat.two_pow_pos m
  have h2 : 2 ^ m ≤ 2 ^ 32 := Nat.pow_le_pow_right (by omega) hm
  have h3 : (2 : Int) ^ m = ((2 ^ m : Nat) : Int) := by simp
  rw [h3]
  omega
theorem below_eq (x : BitVec 32) (n : Int) : x &&& low (cut n) = btw x (-1) n := by
  apply BitVec.eq_of_getLsbD_eq; intro i hi
  rw [BitVec.getLsbD_and, low_bit _ i hi, btw_bit _ _ _ i hi]
  have h1 : (-1 : Int) < (i : Int) := by omega
  have h2 : i < cut n ↔ (i : Int) < n := by unfold cut; omega
  simp [h1, h2]
theorem above_eq (x : BitVec 32) (n : Int) : (x &&& ~~~btw x (-1) n) &&& ~~~onl n = btw x n 32 := by
  apply BitVec.eq_of_getLsbD_eq; intro i hi
  rw [BitVec.getLsbD_and, BitVec.getLsbD_and, BitVec.getLsbD_not, BitVec.getLsbD_not, onl_bit n i hi, btw_bit _ _ _ i hi, btw_bit _ _ _ i hi]
  have h1 : (-1 : Int) < (i : Int) := by omega
  have h3 : (i : Int) < 32 := by omega
  cases hx : x.getLsbD i
  · simp
  · by_cases a : (i : Int) < n
    · have : ¬ n < (i : Int) := by omega
      simp [hi, h1, a, this]
    · by_cases b : (i : Int) = n
      · have : ¬ n < (i : Int) := by omega
        simp [hi, b]
      · have : n < (i : Int) := by omega
        simp [hi, a, b, h3, this]
theorem with_eq (x : BitVec 32) (n : Int) : ofR (ints (lst x 32) ++ [n]) = x ||| onl n := by
  apply BitVec.eq_of_getLsbD_eq; intro i hi
  rw [ofR_bit _ i hi, BitVec.getLsbD_or, onl_bit n i hi, Bool.eq_iff_iff, decide_eq_true_iff, List.mem_append, mem_ints, Int.toNat_natCast, mem_lst]
  simp [hi]
theorem without_eq (x : BitVec 32) (n : Int) (_hn : 0 ≤ n) : btw x (-1) n + btw x n 32 = x &&& ~~~onl n := by
  have h0 : btw x (-1) n &&& btw x n 32 = 0#32 := by
    apply BitVec.eq_of_getLsbD_eq; intro i hi
    rw [BitVec.getLsbD_and, btw_bit _ _ _ i hi, btw_bit _ _ _ i hi]
    by_cases a : (i : Int) < n
    · have : ¬ n < (i : Int) := by omega
      simp [this]
    · simp [a]
  rw [BitVec.add_eq_or_of_and_eq_zero _ _ h0]
  apply BitVec.eq_of_getLsbD_eq; intro i hi
  rw [BitVec.getLsbD_or, BitVec.getLsbD_and, BitVec.getLsbD_not, onl_bit n i hi, btw_bit _ _ _ i hi, btw_bit _ _ _ i hi]
  have h1 : (-1 : Int) < (i : Int) := by omega
  have h3 : (i : Int) < 32 := by omega
  cases hx : x.getLsbD i
  · simp
  · by_cases a : (i : Int) < n
    · have : ¬ (i : Int) = n := by omega
      simp [hi, h1, a, this]
    · by_cases b : (i : Int) = n
      · have : ¬ n < (i : Int) := by omega
        simp [hi, b]
      · have : n < (i : Int) := by omega
        simp [hi, b, h3, this]
theorem without_neg (x : BitVec 32) (n : Int) (hn : n < 0) : x &&& ~~~onl n = x := by
  have : onl n = 0#32 := by unfold onl; rw [if_neg (by omega)]
  rw [this]
  apply BitVec.eq_of_getLsbD_eq; intro i hi
  rw [BitVec.getLsbD_and, BitVec.getLsbD_not]
  simp [hi, -BitVec.not_zero]
theorem has_eq (x : BitVec 32) (n : Int) : (x &&& onl n != 0#32) = decide (n ∈ ints (lst x 32)) := by
  rw [Bool.eq_iff_iff, bne_iff_ne, decide_eq_true_iff, mem_ints, mem_lst]
  constructor
  · intro h
    by_cases hn : 0 ≤ n ∧ n < 32
    · refine ⟨hn.1, by omega, ?_⟩
      cases hx : x.getLsbD n.toNat
      · exfalso; apply h
        apply BitVec.eq_of_getLsbD_eq; intro i hi
        rw [BitVec.getLsbD_and, onl_bit n i hi]
        by_cases e : (i : Int) = n
        · have : n.toNat = i := by omega
          rw [this] at hx; simp [hx]
        · simp [e]
      · rfl
    · exfalso; apply h
      have : onl n = 0#32 := by unfold onl; rw [if_neg hn]
      rw [this]; simp
  · rintro ⟨h0, h1, h2⟩ h
    have := congrArg (·.getLsbD n.toNat) h
    simp only [BitVec.getLsbD_and, onl_bit n n.toNat h1, h2] at this
    simp at this
    omega

end Go.Proofs.YtchmdnmifpjfkaaDoor
/- Images: what they are as plain data, and where one lies in memory. No statement about the program's functions. -/
namespace Go.Proofs.YtchmdnmifpjfkaaDoor
open Go.RowKit

structure TaskM where
  per : Int
  dl : Int
  cost : Int
  lon : List Int
structure ModeM where
  tasks : BitVec 32
  qs : List (Int × Int)
structure EdgeM where
  frm : Int
  dst : Int
  prot : Int
  offs : List Int
  map : List Int
structure Img where
  res : Int
  tasks : List TaskM
  modes : List ModeM
  edges : List EdgeM
instance : Inhabited TaskM := ⟨⟨0, 0, 0, [0, 0, 0, 0, 0, 0, 0, 0]⟩⟩
instance : Inhabited ModeM := ⟨⟨0#32, []⟩⟩
instance : Inhabited EdgeM := ⟨⟨0, 0, 0, [0, 0, 0, 0, 0, 0, 0, 0, 0, 0, 0, 0, 0, 0, 0, 0], [0, 0, 0, 0]⟩⟩
def Img.t (x : Img) (k : Nat) : TaskM := x.tasks.getD k default
def Img.m (x : Img) (k : Nat) : ModeM := x.modes.getD k default
def Img.e (x : Img) (k : Nat) : EdgeM := x.edges.getD k default
def rowZ (l : List Int) : List Value := l.map (.int .i64)
def taskC (t : TaskM) : List Value := .int .i64 t.per :: .int .i64 t.dl :: .int .i64 t.cost :: rowZ t.lon
def edgeC (e : EdgeM) : List Value := .int .i64 e.frm :: .int .i64 e.dst :: .int .i64 e.prot :: (rowZ e.offs ++ rowZ e.map)
/-- Where an image's parts lie. -/
structure ImgS where
  t : Src
  m : Src
  e : Src
  q : Nat → Src
/-- The four cells of an image. -/
def imgC (x : Img) (S : ImgS) : Array Value := #[.int .i64 x.res, .slice S.t.sp x.tasks.length S.t.c, .slice S.m.sp x.modes.length S.m.c, .slice S.e.sp x.edges.length S.e.c]
/-- An image's parts lie there, none of them in a block of V. -/
structure ImgAt (w : World) (V : Nat → Prop) (x : Img) (S : ImgS) : Prop where
  st : SlAt w V S.t x.tasks.length
  sm : SlAt w V S.m x.modes.length
  se : SlAt w V S.e x.edges.length
  tk : ∀ k, k < x.tasks.length → At w S.t.b (S.t.o + k * 11) (taskC (x.t k)) ∧ (x.t k).lon.length = 8
  md : ∀ k, k < x.modes.length → w.cell? ⟨S.m.b, S.m.o + k * 2, none⟩ = some (.int .u32 (w32 (x.m k).tasks)) ∧ w.cell? ⟨S.m.b, S.m.o + k * 2 + 1, none⟩ = some (.slice (S.q k).sp (x.m k).qs.length (S.q k).c) ∧ SlAt w V (S.q k) (x.m k).qs.length
  qu : ∀ k, k < x.modes.length → ∀ j, j < (x.m k).qs.length → w.cell? ⟨(S.q k).b, (S.q k).o + j * 2, none⟩ = some (.int .i64 ((x.m k).qs.getD j (0, 0)).1) ∧ w.cell? ⟨(S.q k).b, (S.q k).o + j * 2 + 1, none⟩ = some (.int .i64 ((x.m k).qs.getD j (0, 0)).2)
  ed : ∀ k, k < x.edges.length → At w S.e.b (S.e.o + k * 23) (edgeC (x.e k)) ∧ (x.e k).offs.length = 16 ∧ (x.e k).map.length = 4
theorem ImgAt.keep {V : Nat → Prop} {w w' : World} {x : Img} {S : ImgS} (h : ImgAt w V x S) (c : Ch V w w') : ImgAt w' V x S where
  st := h.st.keep c
  sm := h.sm.keep c
  se := h.se.keep c
  tk := fun k hk => ⟨(h.tk k hk).1.keep c (h.st.at_ (by omega)).2.2, (h.tk k hk).2⟩
  md := fun k hk => ⟨c.cell (h.md k hk).1 (h.sm.at_ (by omega)).2.2, c.cell (h.md k hk).2.1 (h.sm.at_ (by omega)).2.2, (h.md k hk).2.2.keep c⟩
  qu := fun k hk j hj => ⟨c.cell (h.qu k hk j hj).1 (((h.md k hk).2.2.at_ (by omega)).2.2), c.cell (h.qu k hk j hj).2 (((h.md k hk).2.2.at_ (by omega)).2.2)⟩
  ed := fun k hk => ⟨(h.ed k hk).1.keep c (h.se.at_ (by omega)).2.2, (h.ed k hk).2⟩
theorem ImgAt.more {V V' : Nat → Prop} {w : World} {x : Img} {S : ImgS} (h : ImgAt w V x S) (hV : ∀ j, j < w.heap.size → V' j → V j) : ImgAt w V' x S where
  st := h.st.more hV
  sm := h.sm.more hV
  se := h.se.more hV
  tk := h.tk
  md := fun k hk => ⟨(h.md k hk).1, (h.md k hk).2.1, (h.md k hk).2.2.more hV⟩
  qu := h.qu
  ed := h.ed
theorem ImgAt.new {V : Nat → Prop} {w w' : World} {x : Img} {S : ImgS} (h : ImgAt w V x S) (hb : Below w.heap.size w w') : ImgAt w' V x S := h.keep (Ch.new hb)
end Go.Proofs.YtchmdnmifpjfkaaDoor
/- The contracts of mask's only, Has, With, Without, Below and Above. -/
namespace Go.Proofs.YtchmdnmifpjfkaaDoor
open Go.RowKit

theorem only_any (n : Int) (w : World) : Calls Tryd.prog 59 #[.int .i64 n] w fun e w' => e = .returned (.int .u32 (w32 (onl n))) ∧ w = w' := by
  by_cases h : 0 ≤ n ∧ n < 32
  · obtain ⟨h0, h1⟩ := h
    obtain ⟨k, rfl⟩ := Int.eq_ofNat_of_zero_le h0
    have hs := shl_one k (by omega)
    have ho : onl (k : Int) = 1#32 <<< k := by unfold onl; rw [if_pos ⟨h0, h1⟩]; rfl
    rw [ho]
    go_enter Tryd.func59, Tryd.ntmps59
    go_wp2
    go_ret
    exact ⟨congrArg (fun z => Ending.returned (.int .u32 z)) hs, rfl⟩
  · have ho : onl n = 0#32 := by unfold onl; rw [if_neg h]
    rw [ho]
    by_cases h0 : n < 0
    · go_enter Tryd.func59, Tryd.ntmps59
      go_wp2
      go_ret
      exact ⟨rfl, rfl⟩
    · have h1 : (32 : Int) ≤ n := by omega
      go_enter Tryd.func59, Tryd.ntmps59
      go_wp2
      go_ret
      exact ⟨rfl, rfl⟩

theorem mhas_any (x : BitVec 32) (n : Int) (w : World) : Calls Tryd.prog 31 #[.int .u32 (w32 x), .int .i64 n] w fun e w' => e = .returned (.bool (decide (n ∈ ints (lst x 32)))) ∧ w = w' := by
  have ha := and32 x (onl n)
  have hb : (w32 (x &&& onl n) != 0) = decide (n ∈ ints (lst x 32)) := by
    rw [← has_eq, w32_zero, Bool.eq_iff_iff, bne_iff_ne, bne_iff_ne, Ne, Ne, w32_inj]
  go_enter Tryd.func31, Tryd.ntmps31
  go_wp2_with (go_at_call 59; refine (only_any _ _).mono ?_; rintro e w' ⟨rfl, rfl⟩)
  go_ret
  exact ⟨rfl, rfl⟩

theorem with_any (x : BitVec 32) (n : Int) (w : World) : Calls Tryd.prog 85 #[.int .u32 (w32 x), .int .i64 n] w fun e w' => e = .returned (.int .u32 (w32 (x ||| onl n))) ∧ w = w' := by
  have ha := or32 x (onl n)
  go_enter Tryd.func85, Tryd.ntmps85
  go_wp2_with (go_at_call 59; refine (only_any _ _).mono ?_; rintro e w' ⟨rfl, rfl⟩)
  go_ret
  exact ⟨rfl, rfl⟩

theorem without_any (x : BitVec 32) (n : Int) (w : World) : Calls Tryd.prog 82 #[.int .u32 (w32 x), .int .i64 n] w fun e w' => e = .returned (.int .u32 (w32 (x &&& ~~~onl n))) ∧ w = w' := by
  have ha := andNot32 x (onl n)
  go_enter Tryd.func82, Tryd.ntmps82
  go_wp2_with (go_at_call 59; refine (only_any _ _).mono ?_; rintro e w' ⟨rfl, rfl⟩)
  go_ret
  exact ⟨rfl, rfl⟩

theorem low_int' (m : Nat) (hm : m ≤ 32) : ((2 : Int) ^ m - 1) % (4294967296 : Int) = w32 (low m) := by
  rw [← low_int m hm]; omega
theorem below_any (x : BitVec 32) (n : Int) (w : World) : Calls Tryd.prog 61 #[.int .u32 (w32 x), .int .i64 n] w fun e w' => e = .returned (.int .u32 (w32 (btw x (-1) n))) ∧ w = w' := by
  rw [← below_eq]
  have hn : (n ≤ 0 ∧ cut n = 0) ∨ (0 < n ∧ n < 32 ∧ cut n = n.toNat) ∨ (32 ≤ n ∧ cut n = 32) := by unfold cut; omega
  have al : ∀ (m : Nat) (z : Int), z = w32 (low m) → bits .and .u32 (w32 x) z = w32 (x &&& low m) := fun m z h => by rw [h, and32]
  rcases hn with ⟨h, e⟩ | ⟨h, h2, e⟩ | ⟨h, e⟩
  · have hz := al 0 0 (by decide)
    rw [e]
    clear e al
    by_cases h0 : n < 0
    · go_enter Tryd.func61, Tryd.ntmps61
      go_wp2
      go_ret
      exact ⟨rfl, rfl⟩
    · obtain rfl : n = 0 := by omega
      go_enter Tryd.func61, Tryd.ntmps61
      go_wp2
      go_ret
      exact ⟨rfl, rfl⟩
  · obtain ⟨k, rfl⟩ := Int.eq_ofNat_of_zero_le (Int.le_of_lt h)
    have hz := al k _ (low_int' k (by omega))
    rw [e, Int.toNat_natCast]
    clear e al
    go_enter Tryd.func61, Tryd.ntmps61
    go_wp2
    go_ret
    exact ⟨rfl, rfl⟩
  · have hz := al 32 4294967295 (by decide)
    rw [e]
    clear e al
    by_cases h0 : n = 32
    · subst h0
      go_enter Tryd.func61, Tryd.ntmps61
      go_wp2
      go_ret
      exact ⟨rfl, rfl⟩
    · have h1 : 32 < n := by omega
      go_enter Tryd.func61, Tryd.ntmps61
      go_wp2
      go_ret
      exact ⟨rfl, rfl⟩

theorem above_any (x : BitVec 32) (n : Int) (w : World) : Calls Tryd.prog 66 #[.int .u32 (w32 x), .int .i64 n] w fun e w' => e = .returned (.int .u32 (w32 (btw x n 32))) ∧ w = w' := by
  rw [← above_eq]
  have ha := andNot32 x (btw x (-1) n)
  go_enter Tryd.func66, Tryd.ntmps66
  go_wp2_with (first | (go_at_call 61; refine (below_any _ _ _).mono ?_; rintro e w' ⟨rfl, rfl⟩) | (go_at_call 82; refine (without_any _ _ _).mono ?_; rintro e w' ⟨rfl, rfl⟩))
  go_ret
  exact ⟨rfl, rfl⟩
end Go.Proofs.YtchmdnmifpjfkaaDoor
/- The contract of ref10's Has. -/
namespace Go.Proofs.YtchmdnmifpjfkaaDoor
open Go.RowKit

theorem odd_test (x : BitVec 32) (k : Nat) : ((w32 x / 2 ^ k).tmod 2 == 1) = x.getLsbD k := by
  have e1 : w32 x / 2 ^ k = ((x.toNat / 2 ^ k : Nat) : Int) := by unfold w32; simp
  have e2 : ((x.toNat / 2 ^ k : Nat) : Int).tmod 2 = ((x.toNat / 2 ^ k % 2 : Nat) : Int) := rfl
  rw [e1, e2, BitVec.getLsbD, Nat.testBit_eq_decide_div_mod_eq]
  have : x.toNat / 2 ^ k % 2 < 2 := Nat.mod_lt _ (by omega)
  rw [Bool.eq_iff_iff, beq_iff_eq, decide_eq_true_iff]
  omega
/-- Is a number in a set? -/
def hasB (x : BitVec 32) (i : Int) : Bool := decide (i ∈ ints (lst x 32))
theorem hasB_nat (x : BitVec 32) (k : Nat) (hk : k < 32) : hasB x (k : Int) = x.getLsbD k := by
  unfold hasB
  rw [Bool.eq_iff_iff, decide_eq_true_iff, mem_ints, Int.toNat_natCast, mem_lst]
  simp [hk]
theorem hasB_none (x : BitVec 32) (i : Int) (h : ¬ (0 ≤ i ∧ i < 32)) : hasB x i = false := by
  unfold hasB
  rw [decide_eq_false_iff_not, mem_ints, mem_lst]
  rintro ⟨h1, h2, -⟩
  exact h ⟨h1, by omega⟩
theorem has10_any (x : BitVec 32) (i : Int) (w : World) : Calls Tryd.prog 41 #[.int .u32 (w32 x), .int .i64 i] w fun e w' => e = .returned (.bool (hasB x i)) ∧ w = w' := by
  by_cases h : 0 ≤ i ∧ i < 32
  · obtain ⟨h0, h1⟩ := h
    obtain ⟨k, rfl⟩ := Int.eq_ofNat_of_zero_le h0
    have ht := odd_test x k
    rw [hasB_nat x k (by omega)]
    go_enter Tryd.func41, Tryd.ntmps41
    go_wp2
    go_ret
    exact ⟨rfl, rfl⟩
  · rw [hasB_none x i h]
    by_cases h0 : 0 ≤ i
    · have h1 : ¬ i < 32 := by omega
      clear h
      go_enter Tryd.func41, Tryd.ntmps41
      go_wp2
      go_ret
      exact ⟨rfl, rfl⟩
    · clear h
      go_enter Tryd.func41, Tryd.ntmps41
      go_wp2
      go_ret
      exact ⟨rfl, rfl⟩
end Go.Proofs.YtchmdnmifpjfkaaDoor
/- The contract of ref10's Great. -/
namespace Go.Proofs.YtchmdnmifpjfkaaDoor
open Go.RowKit

/-- More than is asked of any image? -/
def greatI (x : Img) : Bool := decide (40 < x.tasks.length) || decide (20 < x.modes.length) || decide (60 < x.edges.length) || (List.range x.modes.length).any fun k => decide (20 < (x.m k).qs.length)
theorem great_not {x : Img} (h : greatI x = false) : x.tasks.length ≤ 40 ∧ x.modes.length ≤ 20 ∧ x.edges.length ≤ 60 ∧ ∀ k, k < x.modes.length → (x.m k).qs.length ≤ 20 := by
  unfold greatI at h
  simp only [Bool.or_eq_false_iff, decide_eq_false_iff_not, List.any_eq_false, List.mem_range, decide_eq_true_iff] at h
  obtain ⟨⟨⟨h1, h2⟩, h3⟩, h4⟩ := h
  exact ⟨by omega, by omega, by omega, fun k hk => by have := h4 k hk; omega⟩
set_option maxHeartbeats 2000000 in
theorem great10_any {w : World} {V : Nat → Prop} {x : Img} {S : ImgS} (h : ImgAt w V x S) :
    Calls Tryd.prog 20 #[.agg #[.int .i64 x.res, .slice S.t.sp x.tasks.length S.t.c, .slice S.m.sp x.modes.length S.m.c, .slice S.e.sp x.edges.length S.e.c]] w fun e w' => e = .returned (.bool (greatI x)) ∧ Below w.heap.size w w' := by
  have HG := Lib.hid (show greatI x = (decide (40 < x.tasks.length) || decide (20 < x.modes.length) || decide (60 < x.edges.length) || (List.range x.modes.length).any fun k => decide (20 < (x.m k).qs.length)) from rfl)
  have HI := Lib.hid h
  obtain ⟨nT, hnT⟩ : ∃ n, x.tasks.length = n := ⟨_, rfl⟩
  obtain ⟨nM, hnM⟩ : ∃ n, x.modes.length = n := ⟨_, rfl⟩
  obtain ⟨nE, hnE⟩ : ∃ n, x.edges.length = n := ⟨_, rfl⟩
  have HN := Lib.hid hnM
  rw [hnT, hnM, hnE] at HG ⊢
  obtain ⟨W2, hW2⟩ : ∃ w2, w.alloc (.cells #[.int .i64 x.res, .slice S.t.sp nT S.t.c, .slice S.m.sp nM S.m.c, .slice S.e.sp nE S.e.c] 26) = w2 := ⟨_, rfl⟩
  have HZ := Lib.hid (show Below w.heap.size w W2 from by rw [← hW2]; exact (Below.refl _ _).alloc (Nat.le_refl _) _)
  have HZ2 := Lib.hid (show Below w.heap.size w (w.alloc (.cells #[.int .i64 x.res, .slice S.t.sp nT S.t.c, .slice S.m.sp nM S.m.c, .slice S.e.sp nE S.e.c] 26)) from (Below.refl _ _).alloc (Nat.le_refl _) _)
  obtain ⟨A, hA⟩ : ∃ A, A = w.heap.size := ⟨_, rfl⟩
  have HR := Lib.hid (show RowAt W2 A 26 #[.int .i64 x.res, .slice S.t.sp nT S.t.c, .slice S.m.sp nM S.m.c, .slice S.e.sp nE S.e.c] from by rw [← hW2, hA]; exact RowAt.mk _ _ _)
  clear h hnT hnM hnE
  by_cases g1 : 40 < nT
  · have g1' : (40 : Int) < (nT : Int) := by omega
    rw [decide_eq_true g1] at HG
    clear g1 hW2 hA
    go_enter Tryd.func20, Tryd.ntmps20
    go_wp2
    go_ret
    exact ⟨by rw [HG.out]; rfl, HZ2.out⟩
  have g1' : ¬ (40 : Int) < (nT : Int) := by omega
  rw [decide_eq_false g1] at HG
  by_cases g2 : 20 < nM
  · have g2' : (20 : Int) < (nM : Int) := by omega
    rw [decide_eq_true g2] at HG
    clear g1 g2 hW2 hA
    go_enter Tryd.func20, Tryd.ntmps20
    go_wp2
    go_ret
    exact ⟨by rw [HG.out]; rfl, HZ2.out⟩
  have g2' : ¬ (20 : Int) < (nM : Int) := by omega
  rw [decide_eq_false g2] at HG
  by_cases g3 : 60 < nE
  · have g3' : (60 : Int) < (nE : Int) := by omega
    rw [decide_eq_true g3] at HG
    clear g1 g2 g3 hW2 hA
    go_enter Tryd.func20, Tryd.ntmps20
    go_wp2
    go_ret
    exact ⟨by rw [HG.out]; rfl, HZ2.out⟩
  have g3' : ¬ (60 : Int) < (nE : Int) := by omega
  rw [decide_eq_false g3] at HG
  clear g1 g3
  go_enter Tryd.func20, Tryd.ntmps20
  go_upto_region 1 with fail
  try rw [hW2]
  rw [← hA]
  clear hW2 hA HZ2
  have c1 : W2.cell? ⟨A, 1, none⟩ = some (.slice S.t.sp nT S.t.c) := HR.out.cell 1
  have c2 : W2.cell? ⟨A, 2, none⟩ = some (.slice S.m.sp nM S.m.c) := HR.out.cell 2
  have c3 : W2.cell? ⟨A, 3, none⟩ = some (.slice S.e.sp nE S.e.c) := HR.out.cell 3
  go_wp2
  go_loopg [3] nM (fun g v wr => ∃ k : Nat, k + g = nM ∧ v = .int .i64 (k : Nat) ∧ Aside (W2 = wr ∧ ∀ j, j < k → ¬ 20 < (x.m j).qs.length))
  case atStart => exact ⟨0, by omega, rfl, rfl, fun j hj => absurd hj (Nat.not_lt_zero j)⟩
  case round =>
    obtain ⟨k, hkg, rfl, HQ⟩ := hrel
    obtain ⟨rfl, hq⟩ := HQ.out
    have HQ2 := Lib.hid hq
    clear HQ hq
    cases gk with
    | zero =>
      obtain rfl : k = nM := by omega
      go_wp2
      go_ret
      refine ⟨?_, HZ.out⟩
      rw [HG.out]
      have : ((List.range k).any fun k => decide (20 < (x.m k).qs.length)) = false := by
        rw [List.any_eq_false]
        intro j hj
        rw [List.mem_range] at hj
        simpa using HQ2.out j hj
      rw [this]; rfl
    | succ g1 =>
      have hk : k < nM := by omega
      have hkx : k < x.modes.length := by rw [HN.out]; exact hk
      obtain ⟨hsp, -, -⟩ := HI.out.sm.at_ (by omega)
      rw [hsp] at c2
      have q1 := ((HI.out.new HZ.out).md k hkx).2.1
      obtain ⟨n, hn⟩ : ∃ n, (x.m k).qs.length = n := ⟨_, rfl⟩
      rw [hn] at q1
      have HNn := Lib.hid hn
      have hk2 : (k : Int) < (nM : Int) := by omega
      have hk3 : (k : Int) ≤ 20 := by omega
      clear hn hsp hkx g2
      by_cases hb : 20 < n
      · have hb2 : (20 : Int) < (n : Int) := by omega
        have HB := Lib.hid hb
        clear hb
        go_wp2
        go_ret
        refine ⟨?_, HZ.out⟩
        rw [HG.out]
        have : ((List.range nM).any fun k => decide (20 < (x.m k).qs.length)) = true := by
          rw [List.any_eq_true]
          exact ⟨k, by rw [List.mem_range]; exact hk, by rw [HNn.out]; exact decide_eq_true HB.out⟩
        rw [this]; rfl
      · have hb2 : ¬ (20 : Int) < (n : Int) := by omega
        have HB := Lib.hid hb
        clear hb
        go_wp2
        go_roundg g1
        case measure => omega
        case rel =>
          refine ⟨k + 1, by omega, by go_num, rfl, fun j hj => ?_⟩
          rcases Nat.lt_or_ge j k with h1 | h1
          · exact HQ2.out j h1
          · obtain rfl : j = k := by omega
            rw [HNn.out]; exact HB.out
end Go.Proofs.YtchmdnmifpjfkaaDoor
/- The contracts of image's hasMode and Tasks. -/
namespace Go.Proofs.YtchmdnmifpjfkaaDoor
open Go.RowKit

theorem hasMode_any (r : Int) (sT sM sE : Option Addr) (nT cT nM cM nE cE : Nat) (m : Int) (w : World) :
    Calls Tryd.prog 90 #[.agg #[.int .i64 r, .slice sT nT cT, .slice sM nM cM, .slice sE nE cE], .int .i64 m] w fun e w' => e = .returned (.bool (decide (0 ≤ m ∧ m < (nM : Int)))) ∧ Below w.heap.size w w' := by
  have hb : Below w.heap.size w (w.alloc (.cells #[.int .i64 r, .slice sT nT cT, .slice sM nM cM, .slice sE nE cE] 26)) := (Below.refl _ _).alloc (Nat.le_refl _) _
  have HB := Lib.hid hb
  clear hb
  by_cases h0 : 0 ≤ m
  · by_cases h1 : m < (nM : Int)
    · rw [decide_eq_true (⟨h0, h1⟩ : 0 ≤ m ∧ m < (nM : Int))]
      go_enter Tryd.func90, Tryd.ntmps90
      go_wp2
      go_ret
      exact ⟨rfl, HB.out⟩
    · rw [decide_eq_false (fun h : 0 ≤ m ∧ m < (nM : Int) => h1 h.2)]
      go_enter Tryd.func90, Tryd.ntmps90
      go_wp2
      go_ret
      exact ⟨rfl, HB.out⟩
  · rw [decide_eq_false (fun h : 0 ≤ m ∧ m < (nM : Int) => h0 h.1)]
    go_enter Tryd.func90, Tryd.ntmps90
    go_wp2
    go_ret
    exact ⟨rfl, HB.out⟩
/-- The tasks of a mode; none, if there is no such. -/
def tasksM (x : Img) (m : Int) : BitVec 32 := if 0 ≤ m ∧ m < (x.modes.length : Int) then (x.m m.toNat).tasks else 0#32
set_option maxHeartbeats 1000000 in
theorem iTasks_any {w : World} {V : Nat → Prop} {x : Img} {S : ImgS} (h : ImgAt w V x S) (m : Int) :
    Calls Tryd.prog 58 #[.agg #[.int .i64 x.res, .slice S.t.sp x.tasks.length S.t.c, .slice S.m.sp x.modes.length S.m.c, .slice S.e.sp x.edges.length S.e.c], .int .i64 m] w fun e w' => e = .returned (.int .u32 (w32 (tasksM x m))) ∧ Below w.heap.size w w' := by
  obtain ⟨nT, hnT⟩ : ∃ n, x.tasks.length = n := ⟨_, rfl⟩
  obtain ⟨nE, hnE⟩ : ∃ n, x.edges.length = n := ⟨_, rfl⟩
  have HH := Lib.hid (fun (wx : World) => hasMode_any x.res S.t.sp S.m.sp S.e.sp nT S.t.c x.modes.length S.m.c nE S.e.c m wx)
  rw [hnT, hnE]
  have HZ := Lib.hid (show Below w.heap.size w (w.alloc (.cells #[.int .i64 x.res, .slice S.t.sp nT S.t.c, .slice S.m.sp x.modes.length S.m.c, .slice S.e.sp nE S.e.c] 26)) from (Below.refl _ _).alloc (Nat.le_refl _) _)
  by_cases hm : 0 ≤ m ∧ m < (x.modes.length : Int)
  · obtain ⟨k, rfl⟩ := Int.eq_ofNat_of_zero_le hm.1
    have hk : k < x.modes.length := by omega
    have ht : tasksM x (k : Int) = (x.m k).tasks := by unfold tasksM; rw [if_pos hm, Int.toNat_natCast]
    rw [ht]
    rw [decide_eq_true hm] at HH
    obtain ⟨hsp, hb, -⟩ := h.sm.at_ (by omega)
    have hc := (h.md k hk).1
    obtain ⟨z, hz⟩ : ∃ z, (x.m k).tasks = z := ⟨_, rfl⟩
    obtain ⟨nM, hnM⟩ : ∃ n, x.modes.length = n := ⟨_, rfl⟩
    rw [hz] at hc ⊢
    rw [hnM] at HH HZ hk ⊢
    rw [hsp] at HH HZ ⊢
    have HC := Lib.hid (show ∀ w', Below w.heap.size w w' → w'.cell? ⟨S.m.b, S.m.o + k * 2, none⟩ = some (.int .u32 (w32 z)) from fun w' hb' => (hb'.cell (p := ⟨S.m.b, S.m.o + k * 2, none⟩) hb).trans hc)
    have hk2 : (k : Int) < (nM : Int) := by omega
    clear h hc hz hnM ht hnT hnE hm hsp
    go_enter Tryd.func58, Tryd.ntmps58
    go_upto_region 3 with (go_at_call 90; refine (HH.out _).mono ?_; rintro e w1 ⟨rfl, b1⟩; rw [World.size_alloc] at b1; have H1 := Lib.hid (show Below w.heap.size w w1 ∧ w1.cell? ⟨w.heap.size, 2, none⟩ = some (.slice (some ⟨S.m.b, S.m.o, none⟩) nM S.m.c) from ⟨HZ.out.trans (b1.mono (by omega)), (b1.cell (p := ⟨w.heap.size, 2, none⟩) (by simp)).trans (by simp [go_sem])⟩); clear b1)
    have c2 := H1.out.2
    have cz := HC.out w1 H1.out.1
    go_wp2
    go_ret
    exact ⟨rfl, H1.out.1⟩
  · have ht : tasksM x m = 0#32 := by unfold tasksM; rw [if_neg hm]
    rw [ht]
    rw [decide_eq_false hm] at HH
    clear h hm ht
    obtain ⟨nM, hnM⟩ : ∃ n, x.modes.length = n := ⟨_, rfl⟩
    rw [hnM] at HH HZ ⊢
    clear hnM hnT hnE
    go_enter Tryd.func58, Tryd.ntmps58
    go_wp2_with (go_at_call 90; refine (HH.out _).mono ?_; rintro e w1 ⟨rfl, b1⟩; rw [World.size_alloc] at b1; have H1 := Lib.hid (show Below w.heap.size w w1 from HZ.out.trans (b1.mono (by omega))); clear b1)
    go_ret
    exact ⟨rfl, H1.out⟩
end Go.Proofs.YtchmdnmifpjfkaaDoor
/- Rows of an edge's cells. No statement about the program's functions. -/
namespace Go.Proofs.YtchmdnmifpjfkaaDoor
open Go.RowKit

theorem rowZ_len (l : List Int) : (rowZ l).length = l.length := by simp [rowZ]
theorem rowZ_one (l : List Int) : (rowZ l).all (·.oneCell') = true := by
  induction l with
  | nil => rfl
  | cons a l ih => simp [rowZ, Value.oneCell']
theorem edgeC_len {e : EdgeM} (h1 : e.offs.length = 16) (h2 : e.map.length = 4) : (edgeC e).length = 23 := by
  unfold edgeC
  simp only [List.length_cons, List.length_append, rowZ_len, h1, h2]
theorem edgeC_one (e : EdgeM) : (edgeC e).all (·.oneCell') = true := by
  unfold edgeC
  simp only [List.all_cons, List.all_append, rowZ_one, Bool.and_true]
  rfl
theorem clsB {w wa : World} (h : Below w.heap.size w wa) : Below w.heap.size w wa.drew := below_dn h 1
theorem modeAt {w : World} {V : Nat → Prop} {x : Img} {S : ImgS} (h : ImgAt w V x S) (k : Nat) (hk : k < x.modes.length) : At w S.m.b (S.m.o + k * 2) [.int .u32 (w32 (x.m k).tasks), .slice (S.q k).sp (x.m k).qs.length (S.q k).c] := fun j u hu => by
  rcases j with _ | _ | j
  · obtain rfl : _ = u := by simpa using hu
    exact (h.md k hk).1
  · obtain rfl : _ = u := by simpa using hu
    exact (h.md k hk).2.1
  · simp at hu
end Go.Proofs.YtchmdnmifpjfkaaDoor
/- The contracts of class's functions. -/
namespace Go.Proofs.YtchmdnmifpjfkaaDoor
open Go.RowKit

/-- Three sets, as a value. -/
def clsV (o n s : BitVec 32) : Value := .agg #[.int .u32 (w32 o), .int .u32 (w32 n), .int .u32 (w32 s)]
theorem clsOf_any (x y : BitVec 32) (w : World) : Calls Tryd.prog 57 #[.int .u32 (w32 x), .int .u32 (w32 y)] w fun e w' => e = .returned (.agg #[.int .u32 (w32 (x &&& ~~~y)), .int .u32 (w32 (y &&& ~~~x)), .int .u32 (w32 (x &&& y))]) ∧ Below w.heap.size w w' := by
  have h1 := andNot32 x y
  have h2 := andNot32 y x
  have h3 := and32 x y
  go_enter Tryd.func57, Tryd.ntmps57
  go_wp2
  go_returns
  exact ⟨rfl, (Below.refl _ _).alloc (Nat.le_refl _) _⟩
/-- Which of the kinds. -/
def kindB (o n s : BitVec 32) (i : Int) : Int := if hasB o i then 1 else if hasB n i then 2 else if hasB s i then 3 else 0
theorem clsTo_any (o n s : BitVec 32) (w : World) : Calls Tryd.prog 36 #[.agg #[.int .u32 (w32 o), .int .u32 (w32 n), .int .u32 (w32 s)]] w fun e w' => e = .returned (.int .u32 (w32 (n ||| s))) ∧ Below w.heap.size w w' := by
  have h1 := or32 n s
  go_enter Tryd.func36, Tryd.ntmps36
  go_wp2
  go_ret
  exact ⟨rfl, (Below.refl _ _).alloc (Nat.le_refl _) _⟩
theorem clsBoth_any (o n s : BitVec 32) (w : World) : Calls Tryd.prog 33 #[.agg #[.int .u32 (w32 o), .int .u32 (w32 n), .int .u32 (w32 s)]] w fun e w' => e = .returned (.int .u32 (w32 (o ||| n ||| s))) ∧ Below w.heap.size w w' := by
  have h1 := or32 o n
  have h2 := or32 (o ||| n) s
  go_enter Tryd.func33, Tryd.ntmps33
  go_wp2
  go_ret
  exact ⟨rfl, (Below.refl _ _).alloc (Nat.le_refl _) _⟩
end Go.Proofs.YtchmdnmifpjfkaaDoor
/- The contract of class's Edge. -/
namespace Go.Proofs.YtchmdnmifpjfkaaDoor
open Go.RowKit

/-- An edge's modes' tasks. -/
def edgeA (x : Img) (i : Int) : BitVec 32 := if 0 ≤ i ∧ i < (x.edges.length : Int) then tasksM x (x.e i.toNat).frm else 0#32
def edgeB (x : Img) (i : Int) : BitVec 32 := if 0 ≤ i ∧ i < (x.edges.length : Int) then tasksM x (x.e i.toNat).dst else 0#32
theorem clsKeep {w wa wb : World} {Z E : Nat} {a b : Array Value} {ta tb : TypeId} {f t : Value} (h : Below w.heap.size w wa ∧ RowAt wa Z ta a ∧ RowAt wa (Z + 1) tb b ∧ wa.cell? ⟨E, 0, none⟩ = some f ∧ wa.cell? ⟨E, 1, none⟩ = some t) (hb : Below wa.heap.size wa wb) :
    Below w.heap.size w wb ∧ RowAt wb Z ta a ∧ RowAt wb (Z + 1) tb b ∧ wb.cell? ⟨E, 0, none⟩ = some f ∧ wb.cell? ⟨E, 1, none⟩ = some t := by
  have hl := World.block_lt_of_cell? wa _ h.2.2.2.1
  exact ⟨h.1.trans (hb.mono h.1.size), h.2.1.new hb, h.2.2.1.new hb, (hb.cell (p := ⟨E, 0, none⟩) hl).trans h.2.2.2.1, (hb.cell (p := ⟨E, 1, none⟩) hl).trans h.2.2.2.2⟩
theorem clsStore {w wa : World} {Z E n : Nat} {a b b' : Array Value} {ta tb : TypeId} {f t : Value} (hZ : Z = w.heap.size) (hn : n = Z + 2) (hE : E = n) (h : Below w.heap.size w wa ∧ RowAt wa Z ta a ∧ RowAt wa (Z + 1) tb b ∧ wa.cell? ⟨E, 0, none⟩ = some f ∧ wa.cell? ⟨E, 1, none⟩ = some t) :
    Below w.heap.size w (wa.setRow (Z + 1) b') ∧ RowAt (wa.setRow (Z + 1) b') (Z + 1) tb b' ∧ RowAt (wa.setRow (Z + 1) b') Z ta a ∧ (wa.setRow (Z + 1) b').cell? ⟨E, 0, none⟩ = some f ∧ (wa.setRow (Z + 1) b').cell? ⟨E, 1, none⟩ = some t := by
  have c := ch_setRow wa (Z + 1) b'
  have hEn : ¬ E = Z + 1 := by omega
  exact ⟨below_row h.1 (Nat.le_refl _) (by omega) _, h.2.2.1.put, h.2.1.keep c (by omega), c.cell h.2.2.2.1 hEn, c.cell h.2.2.2.2 hEn⟩
theorem clsD {w wa : World} {Z E : Nat} {a b : Array Value} {ta tb : TypeId} {f t : Value} (h : Below w.heap.size w wa ∧ RowAt wa Z ta a ∧ RowAt wa (Z + 1) tb b ∧ wa.cell? ⟨E, 0, none⟩ = some f ∧ wa.cell? ⟨E, 1, none⟩ = some t) :
    Below w.heap.size w wa.drew ∧ RowAt wa.drew Z ta a ∧ RowAt wa.drew (Z + 1) tb b ∧ wa.drew.cell? ⟨E, 0, none⟩ = some f ∧ wa.drew.cell? ⟨E, 1, none⟩ = some t := ⟨clsB h.1, h.2⟩
set_option maxHeartbeats 4000000 in
set_option maxRecDepth 100000 in
theorem clsEdge_any {w : World} {V : Nat → Prop} {x : Img} {S : ImgS} (h : ImgAt w V x S) (i : Int) :
    Calls Tryd.prog 30 #[.agg #[.int .i64 x.res, .slice S.t.sp x.tasks.length S.t.c, .slice S.m.sp x.modes.length S.m.c, .slice S.e.sp x.edges.length S.e.c], .int .i64 i] w fun e w' => e = .returned (.agg #[.int .u32 (w32 (edgeA x i &&& ~~~edgeB x i)), .int .u32 (w32 (edgeB x i &&& ~~~edgeA x i)), .int .u32 (w32 (edgeA x i &&& edgeB x i))]) ∧ Below w.heap.size w w' := by
  by_cases hi : 0 ≤ i ∧ i < (x.edges.length : Int)
  case neg =>
    have ea : edgeA x i = 0#32 := by unfold edgeA; rw [if_neg hi]
    have eb : edgeB x i = 0#32 := by unfold edgeB; rw [if_neg hi]
    rw [ea, eb]
    have hz : w32 (0#32 &&& ~~~0#32) = 0 ∧ w32 (0#32 &&& 0#32) = 0 := ⟨by decide, by decide⟩
    rw [hz.1, hz.2]
    obtain ⟨nT, hnT⟩ : ∃ n, x.tasks.length = n := ⟨_, rfl⟩
    obtain ⟨nM, hnM⟩ : ∃ n, x.modes.length = n := ⟨_, rfl⟩
    obtain ⟨nE, hnE⟩ : ∃ n, x.edges.length = n := ⟨_, rfl⟩
    rw [hnE] at hi
    rw [hnT, hnM, hnE]
    clear h ea eb hz hnT hnM hnE
    by_cases h0 : i < 0
    · clear hi
      go_enter Tryd.func30, Tryd.ntmps30
      go_wp2
      go_returns
      exact ⟨rfl, by repeat first | exact Below.refl _ _ | refine Below.alloc ?_ (by simp) _⟩
    · have h1 : ¬ i < (nE : Int) := fun h1 => hi ⟨by omega, h1⟩
      clear hi
      go_enter Tryd.func30, Tryd.ntmps30
      go_wp2
      go_returns
      exact ⟨rfl, by repeat first | exact Below.refl _ _ | refine Below.alloc ?_ (by simp) _⟩
  obtain ⟨k, rfl⟩ := Int.eq_ofNat_of_zero_le hi.1
  have hk : k < x.edges.length := by omega
  have ea : edgeA x (k : Int) = tasksM x (x.e k).frm := by unfold edgeA; rw [if_pos hi, Int.toNat_natCast]
  have eb : edgeB x (k : Int) = tasksM x (x.e k).dst := by unfold edgeB; rw [if_pos hi, Int.toNat_natCast]
  rw [ea, eb]
  have HTf := Lib.hid (show ∀ wx, Below w.heap.size w wx → _ from fun wx hb => iTasks_any (h.new hb) (x.e k).frm)
  have HTt := Lib.hid (show ∀ wx, Below w.heap.size w wx → _ from fun wx hb => iTasks_any (h.new hb) (x.e k).dst)
  obtain ⟨hcs, hl1, hl2⟩ := h.ed k hk
  have hlen := edgeC_len hl1 hl2
  have hone := edgeC_one (x.e k)
  obtain ⟨hsp, hbl, -⟩ := h.se.at_ (by omega)
  have h0 : (edgeC (x.e k))[0]? = some (.int .i64 (x.e k).frm) := rfl
  have h1 : (edgeC (x.e k))[1]? = some (.int .i64 (x.e k).dst) := rfl
  obtain ⟨f, hf⟩ : ∃ f, (x.e k).frm = f := ⟨_, rfl⟩
  obtain ⟨t, ht⟩ : ∃ t, (x.e k).dst = t := ⟨_, rfl⟩
  obtain ⟨cs, hcc⟩ : ∃ cs, edgeC (x.e k) = cs := ⟨_, rfl⟩
  rw [hf] at HTf h0 ⊢
  rw [ht] at HTt h1 ⊢
  rw [hcc] at hcs hlen hone h0 h1
  obtain ⟨A, hA⟩ : ∃ A, tasksM x f = A := ⟨_, rfl⟩
  obtain ⟨B, hB⟩ : ∃ B, tasksM x t = B := ⟨_, rfl⟩
  rw [hA] at HTf ⊢
  rw [hB] at HTt ⊢
  obtain ⟨nT, hnT⟩ : ∃ n, x.tasks.length = n := ⟨_, rfl⟩
  obtain ⟨nM, hnM⟩ : ∃ n, x.modes.length = n := ⟨_, rfl⟩
  obtain ⟨nE, hnE⟩ : ∃ n, x.edges.length = n := ⟨_, rfl⟩
  rw [hnT, hnM, hnE] at HTf HTt
  rw [hnE] at hk hi
  rw [hnT, hnM, hnE]
  rw [hsp] at HTf HTt ⊢
  have HOf := Lib.hid (fun wx => clsOf_any A B wx)
  have HC := Lib.hid (show ∀ w', Below w.heap.size w w' → At w' S.e.b (S.e.o + k * 23) cs from fun w' hb' j u hu => (hb'.cell (p := ⟨S.e.b, S.e.o + k * 23 + j, none⟩) hbl).trans (hcs j u hu))
  have HL := Lib.hid (And.intro hlen (And.intro hone (And.intro h0 h1)))
  have HSz := Lib.hid (show cs.toArray.size = 23 ∧ cs.toArray.all (·.oneCell') = true from ⟨by simpa using hlen, by simpa using hone⟩)
  have hk2 : (k : Int) < (nE : Int) := by omega
  obtain ⟨Z, hZ⟩ : ∃ Z, Z = w.heap.size := ⟨_, rfl⟩
  have HZ := Lib.hid hZ
  clear h hcs hl1 hl2 hlen hone hbl h0 h1 hf ht hcc hA hB hnT hnM hnE hsp ea eb hi
  go_enter Tryd.func30, Tryd.ntmps30
  go_upto_region 1 with fail
  rw [← hZ]
  generalize hw2 : World.alloc _ _ = w2
  have H2 := Lib.hid (show Below w.heap.size w w2 ∧ w2.heap.size = Z + 2 ∧ RowAt w2 Z 26 #[.int .i64 x.res, .slice S.t.sp nT S.t.c, .slice S.m.sp nM S.m.c, .slice (some ⟨S.e.b, S.e.o, none⟩) nE S.e.c] ∧ RowAt w2 (Z + 1) 33 #[.int .u32 0, .int .u32 0, .int .u32 0] by
    rw [← hw2]
    refine ⟨?_, by simp [hZ], ?_, ?_⟩
    · exact ((Below.refl _ _).alloc (Nat.le_refl _) _).alloc (by simp) _
    · rw [hZ]; exact (RowAt.mk w _ _).new ((Below.refl _ _).alloc (Nat.le_refl _) _)
    · have := RowAt.mk (w.alloc (.cells #[.int .i64 x.res, .slice S.t.sp nT S.t.c, .slice S.m.sp nM S.m.c, .slice (some ⟨S.e.b, S.e.o, none⟩) nE S.e.c] 26)) 33 #[.int .u32 0, .int .u32 0, .int .u32 0]
      rw [World.size_alloc, ← hZ] at this
      exact this)
  clear hw2 hZ
  have c3 : w2.cell? ⟨Z, 3, none⟩ = some (.slice (some ⟨S.e.b, S.e.o, none⟩) nE S.e.c) := H2.out.2.2.1.cell 3
  go_upto_region 3 with fail
  have HAt := Lib.hid (HC.out w2 H2.out.1)
  go_wp2_with (first
    | (refine wpList_load_mid rfl 66 (.tmp 19) rfl S.e.b (S.e.o + k * 23) rfl cs _ HAt.out Tryd.underlying66 rfl (by rw [HL.out.1]; kernel_rfl) ?_)
    | (refine wpList_store_row rfl 66 (.tmp 5) (.tmp 20) rfl w2.heap.size cs.toArray (by rfl) (by rfl) 66 _ (heap_alloc_new w2 _) (by rw [HSz.out.1]; kernel_rfl) (by rw [HSz.out.1]; rfl) HSz.out.2 ?_; generalize hw3 : World.setRow _ _ _ = w3)
    | fail)
  have H3 := Lib.hid (show Below w.heap.size w w3 ∧ RowAt w3 Z 26 #[.int .i64 x.res, .slice S.t.sp nT S.t.c, .slice S.m.sp nM S.m.c, .slice (some ⟨S.e.b, S.e.o, none⟩) nE S.e.c] ∧ RowAt w3 (Z + 1) 33 #[.int .u32 0, .int .u32 0, .int .u32 0] ∧ w3.cell? ⟨w2.heap.size, 0, none⟩ = some (.int .i64 f) ∧ w3.cell? ⟨w2.heap.size, 1, none⟩ = some (.int .i64 t) by
    rw [← hw3]
    have hz := H2.out.2.1
    have b3 : Below w2.heap.size w2 (w2.alloc (.cells #[.int .i64 0, .int .i64 0, .int .i64 0, .int .i64 0, .int .i64 0, .int .i64 0, .int .i64 0, .int .i64 0, .int .i64 0, .int .i64 0, .int .i64 0, .int .i64 0, .int .i64 0, .int .i64 0, .int .i64 0, .int .i64 0, .int .i64 0, .int .i64 0, .int .i64 0, .int .i64 0, .int .i64 0, .int .i64 0, .int .i64 0] 66)) := (Below.refl _ _).alloc (Nat.le_refl _) _
    have bs := below_row b3 (Nat.le_refl _) (Nat.le_refl _) cs.toArray
    have hrow : RowAt _ w2.heap.size 66 cs.toArray := (RowAt.mk w2 66 #[.int .i64 0, .int .i64 0, .int .i64 0, .int .i64 0, .int .i64 0, .int .i64 0, .int .i64 0, .int .i64 0, .int .i64 0, .int .i64 0, .int .i64 0, .int .i64 0, .int .i64 0, .int .i64 0, .int .i64 0, .int .i64 0, .int .i64 0, .int .i64 0, .int .i64 0, .int .i64 0, .int .i64 0, .int .i64 0, .int .i64 0]).put
    refine ⟨H2.out.1.trans (bs.mono H2.out.1.size), H2.out.2.2.1.new bs, H2.out.2.2.2.new bs, ?_, ?_⟩
    · exact (hrow.cell 0).trans (by simpa using HL.out.2.2.1)
    · exact (hrow.cell 1).trans (by simpa using HL.out.2.2.2))
  have HZz := Lib.hid H2.out.2.1
  obtain ⟨E, hE⟩ : ∃ E, E = w2.heap.size := ⟨_, rfl⟩
  rw [← hE] at H3 HZz ⊢
  clear hw3 hE c3 HAt
  refine wp_region_held_drew (S := fun w' => RowAt w' Z 26 #[.int .i64 x.res, .slice S.t.sp nT S.t.c, .slice S.m.sp nM S.m.c, .slice (some ⟨S.e.b, S.e.o, none⟩) nE S.e.c] ∧ w'.cell? ⟨E, 0, none⟩ = some (.int .i64 f) ∧ w'.cell? ⟨E, 1, none⟩ = some (.int .i64 t)) (by kernel_rfl) ⟨H3.out.2.1, H3.out.2.2.2⟩ (fun hS => ?_)
  refine wpAnyH_take (i := 0) (oi := { dst := some 21, op := .load 26 (.tmp 2), type := 26, pos := "class.go:36", after := #[], guard := none }) (v := ?_) rfl (by kernel_rfl) (by kernel_rfl) (by kernel_rfl) (fun _ _ _ h => h) (Or.inl ⟨by rfl, ?_⟩) hS ?_
  rotate_left 1
  · intro w hw; obtain ⟨s0, s1, s2⟩ := hw; have k0 := s0.cell 0; have k1 := s0.cell 1; have k2 := s0.cell 2; have k3 := s0.cell 3; simp at k0 k1 k2 k3; go_simp; try (with_reducible rfl)
  simp only [Act.put, List.setIfInBounds_toArray, List.set_cons_zero, List.set_cons_succ]
  refine wpAnyH_take (i := 1) (oi := { dst := some 22, op := .fieldAddr 66 (.tmp 5) 0, type := 0, pos := "class.go:36", after := #[], guard := none }) (v := ?_) rfl (by kernel_rfl) (by kernel_rfl) (by kernel_rfl) (fun _ _ _ h => h) (Or.inl ⟨by rfl, ?_⟩) hS ?_
  rotate_left 1
  · intro w hw; obtain ⟨s0, s1, s2⟩ := hw; go_simp; try (with_reducible rfl)
  simp only [Act.put, List.setIfInBounds_toArray, List.set_cons_zero, List.set_cons_succ]
  refine wpAnyH_take (i := 2) (oi := { dst := some 23, op := .load 3 (.tmp 22), type := 3, pos := "class.go:36", after := #[{ on := 1, ground := .data }], guard := none }) (v := ?_) rfl (by kernel_rfl) (by kernel_rfl) (by kernel_rfl) (fun _ _ _ h => h) (Or.inl ⟨by rfl, ?_⟩) hS ?_
  rotate_left 1
  · intro w hw; obtain ⟨s0, s1, s2⟩ := hw; go_simp; try (with_reducible rfl)
  simp only [Act.put, List.setIfInBounds_toArray, List.set_cons_zero, List.set_cons_succ]
  refine wpAnyH_take (i := 4) (oi := { dst := some 25, op := .load 26 (.tmp 2), type := 26, pos := "class.go:36", after := #[], guard := none }) (v := ?_) rfl (by kernel_rfl) (by kernel_rfl) (by kernel_rfl) (fun _ _ _ h => h) (Or.inl ⟨by rfl, ?_⟩) hS ?_
  rotate_left 1
  · intro w hw; obtain ⟨s0, s1, s2⟩ := hw; have k0 := s0.cell 0; have k1 := s0.cell 1; have k2 := s0.cell 2; have k3 := s0.cell 3; simp at k0 k1 k2 k3; go_simp; try (with_reducible rfl)
  simp only [Act.put, List.setIfInBounds_toArray, List.set_cons_zero, List.set_cons_succ]
  refine wpAnyH_take (i := 5) (oi := { dst := some 26, op := .fieldAddr 66 (.tmp 5) 1, type := 0, pos := "class.go:36", after := #[], guard := none }) (v := ?_) rfl (by kernel_rfl) (by kernel_rfl) (by kernel_rfl) (fun _ _ _ h => h) (Or.inl ⟨by rfl, ?_⟩) hS ?_
  rotate_left 1
  · intro w hw; obtain ⟨s0, s1, s2⟩ := hw; go_simp; try (with_reducible rfl)
  simp only [Act.put, List.setIfInBounds_toArray, List.set_cons_zero, List.set_cons_succ]
  refine wpAnyH_take (i := 6) (oi := { dst := some 27, op := .load 3 (.tmp 26), type := 3, pos := "class.go:36", after := #[{ on := 5, ground := .data }], guard := none }) (v := ?_) rfl (by kernel_rfl) (by kernel_rfl) (by kernel_rfl) (fun _ _ _ h => h) (Or.inl ⟨by rfl, ?_⟩) hS ?_
  rotate_left 1
  · intro w hw; obtain ⟨s0, s1, s2⟩ := hw; go_simp; try (with_reducible rfl)
  simp only [Act.put, List.setIfInBounds_toArray, List.set_cons_zero, List.set_cons_succ]
  refine wpAnyH_ready (rs := [3]) (by kernel_rfl) (by simp) (AllReadyH.cons (o := { dst := some 24, op := .call { callee := .value (.func 58), args := #[.tmp 21, .tmp 23], argTypes := #[26, 3] }, type := 31, pos := "class.go:36", after := #[{ on := 0, ground := .data }, { on := 2, ground := .data }], guard := none }) rfl (fun K hK => ?_) AllReadyH.nil)
  go_simp
  go_at_call 58
  refine (HTf.out _ (clsB H3.out.1)).mono ?_
  rintro e w5 ⟨rfl, b5⟩
  have H5 := Lib.hid (show Below w.heap.size w w5 ∧ RowAt w5 Z 26 #[.int .i64 x.res, .slice S.t.sp nT S.t.c, .slice S.m.sp nM S.m.c, .slice (some ⟨S.e.b, S.e.o, none⟩) nE S.e.c] ∧ RowAt w5 (Z + 1) 33 #[.int .u32 0, .int .u32 0, .int .u32 0] ∧ w5.cell? ⟨E, 0, none⟩ = some (.int .i64 f) ∧ w5.cell? ⟨E, 1, none⟩ = some (.int .i64 t) from clsKeep (clsD H3.out) b5)
  clear b5
  try dsimp only
  refine hK.out _ _ ⟨H5.out.2.1, H5.out.2.2.2⟩ (fun hHeld => ?_)
  clear hK K
  try simp only [Act.put, List.setIfInBounds_toArray, List.set_cons_zero, List.set_cons_succ]
  refine wpAnyH_ready (rs := [7]) (by kernel_rfl) (by simp) (AllReadyH.cons (o := { dst := some 28, op := .call { callee := .value (.func 58), args := #[.tmp 25, .tmp 27], argTypes := #[26, 3] }, type := 31, pos := "class.go:36", after := #[{ on := 4, ground := .data }, { on := 6, ground := .data }, { on := 3, ground := .chain }], guard := none }) rfl (fun K hK => ?_) AllReadyH.nil)
  go_simp
  go_at_call 58
  refine (HTt.out _ H5.out.1).mono ?_
  rintro e w6 ⟨rfl, b6⟩
  have H6 := Lib.hid (show Below w.heap.size w w6 ∧ RowAt w6 Z 26 #[.int .i64 x.res, .slice S.t.sp nT S.t.c, .slice S.m.sp nM S.m.c, .slice (some ⟨S.e.b, S.e.o, none⟩) nE S.e.c] ∧ RowAt w6 (Z + 1) 33 #[.int .u32 0, .int .u32 0, .int .u32 0] ∧ w6.cell? ⟨E, 0, none⟩ = some (.int .i64 f) ∧ w6.cell? ⟨E, 1, none⟩ = some (.int .i64 t) from clsKeep H5.out b6)
  clear b6
  try dsimp only
  refine hK.out _ _ ⟨H6.out.2.1, H6.out.2.2.2⟩ (fun hHeld => ?_)
  clear hK K
  try simp only [Act.put, List.setIfInBounds_toArray, List.set_cons_zero, List.set_cons_succ]
  refine wpAnyH_ready (rs := [8]) (by kernel_rfl) (by simp) (AllReadyH.cons (o := { dst := some 29, op := .call { callee := .value (.func 57), args := #[.tmp 24, .tmp 28], argTypes := #[31, 31] }, type := 33, pos := "class.go:36", after := #[{ on := 3, ground := .data }, { on := 7, ground := .data }, { on := 7, ground := .chain }], guard := none }) rfl (fun K hK => ?_) AllReadyH.nil)
  go_simp
  go_at_call 57
  refine (HOf.out _).mono ?_
  rintro e w7 ⟨rfl, b7⟩
  have H7 := Lib.hid (show Below w.heap.size w w7 ∧ RowAt w7 Z 26 #[.int .i64 x.res, .slice S.t.sp nT S.t.c, .slice S.m.sp nM S.m.c, .slice (some ⟨S.e.b, S.e.o, none⟩) nE S.e.c] ∧ RowAt w7 (Z + 1) 33 #[.int .u32 0, .int .u32 0, .int .u32 0] ∧ w7.cell? ⟨E, 0, none⟩ = some (.int .i64 f) ∧ w7.cell? ⟨E, 1, none⟩ = some (.int .i64 t) from clsKeep H6.out b7)
  clear b7
  try dsimp only
  refine hK.out _ _ ⟨H7.out.2.1, H7.out.2.2.2⟩ (fun hHeld => ?_)
  clear hK K
  try simp only [Act.put, List.setIfInBounds_toArray, List.set_cons_zero, List.set_cons_succ]
  refine wpAnyH_ready (rs := [9]) (by kernel_rfl) (by simp) (AllReadyH.cons (o := { dst := none, op := .store 33 (.tmp 4) (.tmp 29), type := 0, pos := "class.go:36", after := #[{ on := 8, ground := .data }, { on := 8, ground := .chain }, { on := 0, ground := .phase }, { on := 1, ground := .phase }, { on := 2, ground := .phase }, { on := 3, ground := .phase }, { on := 4, ground := .phase }, { on := 5, ground := .phase }, { on := 6, ground := .phase }, { on := 7, ground := .phase }, { on := 8, ground := .phase }], guard := none }) rfl (fun K hK => ?_) AllReadyH.nil)
  rw [if_pos (by rfl)]
  refine wp_store_row 33 (.tmp 4) (.tmp 29) rfl (Z + 1) #[.int .u32 (w32 (A &&& ~~~B)), .int .u32 (w32 (B &&& ~~~A)), .int .u32 (w32 (A &&& B))] rfl rfl 33 #[.int .u32 0, .int .u32 0, .int .u32 0] H7.out.2.2.1 (by kernel_rfl) rfl (by simp [Value.oneCell']) ?_
  generalize hw8 : World.setRow _ _ _ = w8
  have H8 := Lib.hid (show Below w.heap.size w w8 ∧ RowAt w8 (Z + 1) 33 #[.int .u32 (w32 (A &&& ~~~B)), .int .u32 (w32 (B &&& ~~~A)), .int .u32 (w32 (A &&& B))] ∧ RowAt w8 Z 26 #[.int .i64 x.res, .slice S.t.sp nT S.t.c, .slice S.m.sp nM S.m.c, .slice (some ⟨S.e.b, S.e.o, none⟩) nE S.e.c] ∧ w8.cell? ⟨E, 0, none⟩ = some (.int .i64 f) ∧ w8.cell? ⟨E, 1, none⟩ = some (.int .i64 t) by rw [← hw8]; exact clsStore HZ.out HZz.out rfl H7.out)
  clear hw8
  refine hK.out _ _ ⟨H8.out.2.2.1, H8.out.2.2.2⟩ (fun hHeld => ?_)
  clear hK K
  try simp only [Act.put]
  refine wpAnyH_done (by kernel_rfl) ?_ _

  go_wp2
  refine bodyPost_ret (results_cell_row rfl _ _ (Z + 1) 33 #[.int .u32 (w32 (A &&& ~~~B)), .int .u32 (w32 (B &&& ~~~A)), .int .u32 (w32 (A &&& B))] (0, 0) _ rfl H8.out.2.1 Tryd.underlying33 rfl (by kernel_rfl)) rfl ?_
  exact ⟨rfl, H8.out.1⟩
end Go.Proofs.YtchmdnmifpjfkaaDoor
/- The walk of ClassTells. -/
namespace Go.Proofs.YtchmdnmifpjfkaaDoor
open Go.RowKit

theorem andnot_bit (x y : BitVec 32) (k : Nat) (hk : k < 32) : (x &&& ~~~y).getLsbD k = (x.getLsbD k && !y.getLsbD k) := by
  rw [BitVec.getLsbD_and, BitVec.getLsbD_not]; simp [hk]
theorem hasB_andnot (x y : BitVec 32) (i : Int) : hasB (x &&& ~~~y) i = (hasB x i && !hasB y i) := by
  by_cases h : 0 ≤ i ∧ i < 32
  · obtain ⟨k, rfl⟩ := Int.eq_ofNat_of_zero_le h.1
    have hk : k < 32 := by omega
    rw [hasB_nat _ k hk, hasB_nat _ k hk, hasB_nat _ k hk, andnot_bit x y k hk]
  · rw [hasB_none _ i h, hasB_none _ i h]; rfl
theorem hasB_and (x y : BitVec 32) (i : Int) : hasB (x &&& y) i = (hasB x i && hasB y i) := by
  by_cases h : 0 ≤ i ∧ i < 32
  · obtain ⟨k, rfl⟩ := Int.eq_ofNat_of_zero_le h.1
    have hk : k < 32 := by omega
    rw [hasB_nat _ k hk, hasB_nat _ k hk, hasB_nat _ k hk, BitVec.getLsbD_and]
  · rw [hasB_none _ i h, hasB_none _ i h]; rfl
theorem join_from (x y : BitVec 32) : (x &&& ~~~y) ||| (x &&& y) = x := by
  apply BitVec.eq_of_getLsbD_eq; intro i hi
  rw [BitVec.getLsbD_or, andnot_bit x y i hi, BitVec.getLsbD_and]
  cases x.getLsbD i <;> cases y.getLsbD i <;> rfl
theorem join_to (x y : BitVec 32) : (y &&& ~~~x) ||| (x &&& y) = y := by
  apply BitVec.eq_of_getLsbD_eq; intro i hi
  rw [BitVec.getLsbD_or, andnot_bit y x i hi, BitVec.getLsbD_and]
  cases x.getLsbD i <;> cases y.getLsbD i <;> rfl
theorem join_both (x y : BitVec 32) : (x &&& ~~~y) ||| (y &&& ~~~x) ||| (x &&& y) = x ||| y := by
  apply BitVec.eq_of_getLsbD_eq; intro i hi
  rw [BitVec.getLsbD_or, BitVec.getLsbD_or, andnot_bit y x i hi, andnot_bit x y i hi, BitVec.getLsbD_and, BitVec.getLsbD_or]
  cases x.getLsbD i <;> cases y.getLsbD i <;> rfl
end Go.Proofs.YtchmdnmifpjfkaaDoor
