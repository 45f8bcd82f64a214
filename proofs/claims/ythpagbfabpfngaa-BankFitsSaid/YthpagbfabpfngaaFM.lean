/- Words of 32 bits as numbers, bit by bit: plain facts. No statement about the program. -/
import Derived.WalkKit
import Derived.Laws.BitsAllLaws
namespace Go.Proofs.Ythpagbfabpfngaa

def w32 (x : BitVec 32) : Int := (x.toNat : Int)
theorem w32_lt (x : BitVec 32) : 0 ≤ w32 x ∧ w32 x < 4294967296 := by unfold w32; have := x.isLt; omega
theorem ofInt_w32 (x : BitVec 32) : BitVec.ofInt 32 (w32 x) = x := by unfold w32; simp
theorem wrap_w32 (x : BitVec 32) : IntKind.u32.wrap (x.toNat : Int) = w32 x := by
  have := x.isLt; rw [IntKind.wrap_u32']; unfold w32; omega
theorem bits_and32 (x y : Int) : bits .and .u32 x y = w32 (BitVec.ofInt 32 x &&& BitVec.ofInt 32 y) := wrap_w32 _
theorem bits_or32 (x y : Int) : bits .or .u32 x y = w32 (BitVec.ofInt 32 x ||| BitVec.ofInt 32 y) := wrap_w32 _
theorem bits_andNot32 (x y : Int) : bits .andNot .u32 x y = w32 (BitVec.ofInt 32 x &&& ~~~BitVec.ofInt 32 y) := wrap_w32 _
theorem bits_xor32 (x y : Int) : bits .xor .u32 x y = w32 (BitVec.ofInt 32 x ^^^ BitVec.ofInt 32 y) := wrap_w32 _
theorem and32 (x y : BitVec 32) : bits .and .u32 (w32 x) (w32 y) = w32 (x &&& y) := by rw [bits_and32, ofInt_w32, ofInt_w32]
theorem or32 (x y : BitVec 32) : bits .or .u32 (w32 x) (w32 y) = w32 (x ||| y) := by rw [bits_or32, ofInt_w32, ofInt_w32]
theorem andNot32 (x y : BitVec 32) : bits .andNot .u32 (w32 x) (w32 y) = w32 (x &&& ~~~y) := by rw [bits_andNot32, ofInt_w32, ofInt_w32]
theorem not32 (x : BitVec 32) : bits .xor .u32 IntKind.u32.max (w32 x) = w32 (~~~x) := by
  rw [bits_xor32, ofInt_w32]
  congr 1
theorem w32_inj {x y : BitVec 32} : w32 x = w32 y ↔ x = y := by
  unfold w32
  constructor
  · intro h; apply BitVec.eq_of_toNat_eq; omega
  · rintro rfl; rfl
theorem w32_zero : (0 : Int) = w32 0#32 := rfl
theorem shl_one (n : Nat) (_hn : n ≤ 32) : (2 : Int) ^ n % (4294967296 : Int) = w32 (1#32 <<< n) := by
  unfold w32
  rw [BitVec.toNat_shiftLeft, Nat.shiftLeft_eq]
  simp
theorem add32 (x y : BitVec 32) : (w32 x + w32 y) % (4294967296 : Int) = w32 (x + y) := by
  unfold w32
  rw [BitVec.toNat_add]
  omega

/-- The numbers below n for which p holds. -/
def pre (p : Nat → Bool) : Nat → BitVec 32
  | 0 => 0#32
  | n + 1 => if p n then pre p n ||| 1#32 <<< n else pre p n
theorem one_bit (n i : Nat) (hi : i < 32) : (1#32 <<< n).getLsbD i = decide (i = n) := by
  rw [BitVec.getLsbD_shiftLeft]
  by_cases e : i = n
  · subst e; simp [hi]
  · by_cases hl : i < n
    · simp [hl, e]
    · have : i - n ≠ 0 := by omega
      simp [e, this]
theorem pre_bit (p : Nat → Bool) (n i : Nat) (hi : i < 32) : (pre p n).getLsbD i = (decide (i < n) && p i) := by
  induction n with
  | zero => simp [pre]
  | succ n ih =>
    unfold pre
    by_cases hp : p n = true
    · rw [if_pos hp, BitVec.getLsbD_or, ih, one_bit n i hi]
      by_cases e : i = n
      · subst e; simp [hp]
      · have : (i < n + 1) ↔ (i < n) := by omega
        simp [e, this]
    · rw [if_neg hp, ih]
      by_cases e : i = n
      · subst e; simp [hp]
      · have : (i < n + 1) ↔ (i < n) := by omega
        simp [this]
theorem pre_ext (p q : Nat → Bool) (n : Nat) (h : ∀ i, i < n → p i = q i) : pre p n = pre q n := by
  induction n with
  | zero => rfl
  | succ n ih =>
    unfold pre
    rw [h n (by omega), ih (fun i hi => h i (by omega))]
theorem pre_add (p : Nat → Bool) (n : Nat) (hn : n < 32) : (w32 (pre p n) + w32 (1#32 <<< n)) % (4294967296 : Int) = w32 (pre p n ||| 1#32 <<< n) := by
  rw [add32]
  congr 1
  apply BitVec.add_eq_or_of_and_eq_zero
  apply BitVec.eq_of_getLsbD_eq; intro i hi
  rw [BitVec.getLsbD_and, pre_bit p n i hi, one_bit n i hi]
  by_cases e : i = n
  · subst e; simp
  · simp [e]

/-- Does p hold for all below n? -/
def allB (p : Nat → Bool) : Nat → Bool
  | 0 => true
  | n + 1 => allB p n && p n
theorem allB_iff (p : Nat → Bool) (n : Nat) : allB p n = true ↔ ∀ i, i < n → p i = true := by
  induction n with
  | zero => simp [allB]
  | succ n ih =>
    unfold allB
    rw [Bool.and_eq_true, ih]
    constructor
    · rintro ⟨h1, h2⟩ i hi
      by_cases e : i = n
      · subst e; exact h2
      · exact h1 i (by omega)
    · intro h; exact ⟨fun i hi => h i (by omega), h n (by omega)⟩
theorem allB_no (p : Nat → Bool) (n k : Nat) (hk : k < n) (h : p k = false) : allB p n = false := by
  cases ha : allB p n
  · rfl
  · have := (allB_iff p n).1 ha k hk; rw [h] at this; cases this

theorem bit_int (x : BitVec 32) (k : Nat) : (w32 x / 2 ^ k % 2 == 1) = x.getLsbD k := by
  have e : w32 x / 2 ^ k = ((x.toNat / 2 ^ k : Nat) : Int) := by unfold w32; simp
  rw [e]
  show _ = x.toNat.testBit k
  rw [Nat.testBit_eq_decide_div_mod_eq]
  by_cases h : x.toNat / 2 ^ k % 2 = 1
  · have : ((x.toNat / 2 ^ k : Nat) : Int) % 2 = 1 := by omega
    rw [this]; simp [h]
  · have : ((x.toNat / 2 ^ k : Nat) : Int) % 2 = 0 := by omega
    rw [this]; simp [h]

theorem bit_tmod (x : BitVec 32) (k : Nat) (b : Bool) (hb : x.getLsbD k = b) : ((w32 x / 2 ^ k).tmod 2 == 1) = b := by
  rw [← hb, ← bit_int, Int.tmod_eq_emod_of_nonneg]
  exact Int.ediv_nonneg (w32_lt x).1 (Int.le_of_lt (Int.pow_pos (by decide)))

/-- Are all bits of x those of y? -/
def within (x y : BitVec 32) : Bool := x &&& ~~~y == 0#32
theorem within_int (x y : BitVec 32) : (w32 (x &&& ~~~y) == 0) = within x y := by
  unfold within
  rw [Bool.eq_iff_iff, beq_iff_eq, beq_iff_eq, w32_zero, w32_inj]
theorem within_iff (x y : BitVec 32) : within x y = true ↔ ∀ i, i < 32 → x.getLsbD i = true → y.getLsbD i = true := by
  unfold within
  rw [beq_iff_eq]
  constructor
  · intro h i hi hx
    have := congrArg (·.getLsbD i) h
    simp only [BitVec.getLsbD_and, BitVec.getLsbD_not, hx, hi] at this
    simpa using this
  · intro h
    apply BitVec.eq_of_getLsbD_eq; intro i hi
    rw [BitVec.getLsbD_and, BitVec.getLsbD_not]
    cases hx : x.getLsbD i
    · simp
    · simp [hi, h i hi hx]
/-- A bit. -/
def bt (x : BitVec 32) (i : Nat) : Bool := x.getLsbD i
def fellP (a b c : BitVec 32) (i : Nat) : Bool := !((bt c i && !bt a i) || (bt b i && !bt c i))
theorem fell_eq (a b c : BitVec 32) : (within c a && within b c) = allB (fellP a b c) 32 := by
  rw [Bool.eq_iff_iff, Bool.and_eq_true, within_iff, within_iff, allB_iff]
  constructor
  · rintro ⟨h1, h2⟩ i hi
    have h1 := h1 i hi
    have h2 := h2 i hi
    unfold fellP bt
    revert h1 h2
    cases a.getLsbD i <;> cases b.getLsbD i <;> cases c.getLsbD i <;> simp
  · intro h
    constructor
    all_goals
      intro i hi hx
      have := h i hi
      unfold fellP bt at this
      revert this hx
      cases a.getLsbD i <;> cases b.getLsbD i <;> cases c.getLsbD i <;> simp
def roseP (a c : BitVec 32) (i : Nat) : Bool := !(bt a i && !bt c i)
theorem rose_eq (a c : BitVec 32) : within a c = allB (roseP a c) 32 := by
  rw [Bool.eq_iff_iff, within_iff, allB_iff]
  constructor
  · intro h i hi
    have h := h i hi
    unfold roseP bt
    revert h
    cases a.getLsbD i <;> cases c.getLsbD i <;> simp
  · intro h i hi hx
    have := h i hi
    unfold roseP bt at this
    revert this hx
    cases a.getLsbD i <;> cases c.getLsbD i <;> simp
def fallsP (a b c : BitVec 32) (i : Nat) : Bool := bt a i && (bt b i || bt c i)
theorem falls_eq (a b c : BitVec 32) : a &&& (b ||| c) = pre (fallsP a b c) 32 := by
  apply BitVec.eq_of_getLsbD_eq; intro i hi
  rw [pre_bit _ _ i hi, BitVec.getLsbD_and, BitVec.getLsbD_or]
  simp [fallsP, bt, hi]
def risesP (a c : BitVec 32) (i : Nat) : Bool := bt a i || bt c i
theorem rises_eq (a c : BitVec 32) : a ||| c = pre (risesP a c) 32 := by
  apply BitVec.eq_of_getLsbD_eq; intro i hi
  rw [pre_bit _ _ i hi, BitVec.getLsbD_or]
  simp [risesP, bt, hi]
theorem other_int (x : BitVec 32) : (4294967295 - w32 x) % (4294967296 : Int) = w32 (~~~x) := by
  have := x.isLt
  unfold w32
  rw [BitVec.toNat_not]
  omega

/-- The mask behind another one. -/
def nxt (x : BitVec 32) : BitVec 32 :=
  let y := x ^^^ x <<< 13
  let z := y ^^^ y >>> 17
  z ^^^ z <<< 5
theorem shl_int (x : BitVec 32) (k : Nat) : w32 x * 2 ^ k % (4294967296 : Int) = w32 (x <<< k) := by
  unfold w32
  rw [BitVec.toNat_shiftLeft, Nat.shiftLeft_eq]
  simp
theorem shr_int (x : BitVec 32) (k : Nat) : w32 x / 2 ^ k = w32 (x >>> k) := by
  unfold w32
  rw [BitVec.toNat_ushiftRight, Nat.shiftRight_eq_div_pow]
  simp
theorem xor32 (x y : BitVec 32) : bits .xor .u32 (w32 x) (w32 y) = w32 (x ^^^ y) := by rw [bits_xor32, ofInt_w32, ofInt_w32]

end Go.Proofs.Ythpagbfabpfngaa
