/- Sets of numbers as words of 32 bits: plain facts. No statement about the program. -/
import Derived.WalkKit
import Derived.Laws.BitsAllLaws
import Derived.Lib.TrailingZeros
namespace Go.Proofs.Ytmaackdfhmpicaa

def w32 (x : BitVec 32) : Int := (x.toNat : Int)
theorem w32_lt (x : BitVec 32) : 0 ≤ w32 x ∧ w32 x < 4294967296 := by unfold w32; have := x.isLt; omega
theorem ofInt_w32 (x : BitVec 32) : BitVec.ofInt 32 (w32 x) = x := by unfold w32; simp
theorem wrap_w32 (x : BitVec 32) : IntKind.u32.wrap (x.toNat : Int) = w32 x := by
  have := x.isLt; rw [IntKind.wrap_u32']; unfold w32; omega
theorem bits_and32 (x y : Int) : bits .and .u32 x y = w32 (BitVec.ofInt 32 x &&& BitVec.ofInt 32 y) := wrap_w32 _
theorem bits_or32 (x y : Int) : bits .or .u32 x y = w32 (BitVec.ofInt 32 x ||| BitVec.ofInt 32 y) := wrap_w32 _
theorem bits_andNot32 (x y : Int) : bits .andNot .u32 x y = w32 (BitVec.ofInt 32 x &&& ~~~BitVec.ofInt 32 y) := wrap_w32 _
theorem bits_xor32 (x y : Int) : bits .xor .u32 x y = w32 (BitVec.ofInt 32 x ^^^ BitVec.ofInt 32 y) := wrap_w32 _
theorem and32 (x y : BitVec 32) : bits .and .u32 (w32 x) (w32 y) = w32 (x &&& y) := by rw [bits_and32, ofInt_w32, ofInt_w32]
theorem or32 (x y : BitVec 32) : bits .or .u32 (w32 x) (w32 y) = w32 (x ||| y) := by rw [bits_or32, ofInt_w32, ofInt_w32]
theorem andNot32 (x y : BitVec 32) : bits .andNot .u32 (w32 x) (w32 y) = w32 (x &&& ~~~y) := by rw [bits_andNot32, ofInt_w32, ofInt_w32]
theorem not32 (x : BitVec 32) : bits .xor .u32 IntKind.u32.max (w32 x) = w32 (~~~x) := by
  rw [bits_xor32, ofInt_w32]
  congr 1
theorem w32_inj {x y : BitVec 32} : w32 x = w32 y ↔ x = y := by
  unfold w32
  constructor
  · intro h; apply BitVec.eq_of_toNat_eq; omega
  · rintro rfl; rfl
theorem w32_zero : (0 : Int) = w32 0#32 := rfl
theorem shl_one (n : Nat) (_hn : n ≤ 32) : (2 : Int) ^ n % (4294967296 : Int) = w32 (1#32 <<< n) := by
  unfold w32
  rw [BitVec.toNat_shiftLeft, Nat.shiftLeft_eq]
  simp
theorem add32 (x y : BitVec 32) : (w32 x + w32 y) % (4294967296 : Int) = w32 (x + y) := by
  unfold w32
  rw [BitVec.toNat_add]
  omega

/-- The set of one number, or none. -/
def onl (n : Int) : BitVec 32 := if 0 ≤ n ∧ n < 32 then 1#32 <<< n.toNat else 0#32
theorem onl_bit (n : Int) (i : Nat) (hi : i < 32) : (onl n).getLsbD i = decide ((i : Int) = n) := by
  unfold onl
  by_cases h : 0 ≤ n ∧ n < 32
  · rw [if_pos h, BitVec.getLsbD_shiftLeft]
    by_cases e : (i : Int) = n
    · have : n.toNat = i := by omega
      simp [hi, e, this]
    · by_cases hl : i < n.toNat
      · simp [hl, e]
      · have : i - n.toNat ≠ 0 := by omega
        simp [e, this]
  · rw [if_neg h]
    have : ¬ ((i : Int) = n) := by omega
    simp [this]

/-- The numbers below n for which p holds. -/
def pre (p : Nat → Bool) : Nat → BitVec 32
  | 0 => 0#32
  | n + 1 => if p n then pre p n ||| 1#32 <<< n else pre p n
theorem one_bit (n i : Nat) (hi : i < 32) : (1#32 <<< n).getLsbD i = decide (i = n) := by
  rw [BitVec.getLsbD_shiftLeft]
  by_cases e : i = n
  · subst e; simp [hi]
  · by_cases hl : i < n
    · simp [hl, e]
    · have : i - n ≠ 0 := by omega
      simp [e, this]
theorem pre_bit (p : Nat → Bool) (n i : Nat) (hi : i < 32) : (pre p n).getLsbD i = (decide (i < n) && p i) := by
  induction n with
  | zero => simp [pre]
  | succ n ih =>
    unfold pre
    by_cases hp : p n = true
    · rw [if_pos hp, BitVec.getLsbD_or, ih, one_bit n i hi]
      by_cases e : i = n
      · subst e; simp [hp]
      · have : (i < n + 1) ↔ (i < n) := by omega
        simp [e, this]
    · rw [if_neg hp, ih]
      by_cases e : i = n
      · subst e; simp [hp]
      · have : (i < n + 1) ↔ (i < n) := by omega
        simp [this]
theorem pre_ext (p q : Nat → Bool) (n : Nat) (h : ∀ i, i < n → p i = q i) : pre p n = pre q n := by
  induction n with
  | zero => rfl
  | succ n ih =>
    unfold pre
    rw [h n (by omega), ih (fun i hi => h i (by omega))]
theorem pre_add (p : Nat → Bool) (n : Nat) (hn : n < 32) : (w32 (pre p n) + w32 (1#32 <<< n)) % (4294967296 : Int) = w32 (pre p n ||| 1#32 <<< n) := by
  rw [add32]
  congr 1
  apply BitVec.add_eq_or_of_and_eq_zero
  apply BitVec.eq_of_getLsbD_eq; intro i hi
  rw [BitVec.getLsbD_and, pre_bit p n i hi, one_bit n i hi]
  by_cases e : i = n
  · subst e; simp
  · simp [e]

/-- A set's numbers below n, rising. -/
def lst (x : BitVec 32) (n : Nat) : List Nat := (List.range n).filter x.getLsbD
theorem lst_succ (x : BitVec 32) (n : Nat) : lst x (n + 1) = if x.getLsbD n then lst x n ++ [n] else lst x n := by
  unfold lst
  rw [List.range_succ, List.filter_append]
  cases h : x.getLsbD n <;> simp [h]
theorem mem_lst (x : BitVec 32) (n i : Nat) : i ∈ lst x n ↔ i < n ∧ x.getLsbD i = true := by
  unfold lst; simp [List.mem_filter]
theorem lst_len (x : BitVec 32) (n : Nat) : (lst x n).length ≤ n := by
  unfold lst; have := List.length_filter_le x.getLsbD (List.range n); simpa using this
/-- As ints. -/
def ints (l : List Nat) : List Int := l.map Int.ofNat
theorem mem_ints (l : List Nat) (n : Int) : n ∈ ints l ↔ 0 ≤ n ∧ n.toNat ∈ l := by
  unfold ints
  rw [List.mem_map]
  constructor
  · rintro ⟨k, hk, rfl⟩; simpa using hk
  · rintro ⟨h, hk⟩; exact ⟨n.toNat, hk, by simp; omega⟩

/-- The set of the numbers of a row. -/
def ofL (l : List Int) : BitVec 32 := l.foldl (fun s n => s ||| onl n) 0#32
theorem ofL_from (l : List Int) (s : BitVec 32) (i : Nat) (hi : i < 32) : (l.foldl (fun s n => s ||| onl n) s).getLsbD i = (s.getLsbD i || decide ((i : Int) ∈ l)) := by
  induction l generalizing s with
  | nil => simp
  | cons n l ih =>
    rw [List.foldl_cons, ih, BitVec.getLsbD_or, onl_bit n i hi]
    by_cases e : (i : Int) = n <;> simp [e]
theorem ofL_bit (l : List Int) (i : Nat) (hi : i < 32) : (ofL l).getLsbD i = decide ((i : Int) ∈ l) := by
  unfold ofL; rw [ofL_from l _ i hi]; simp
/-- As the reference makes it. -/
def ofR (l : List Int) : BitVec 32 := pre (fun k => decide ((k : Int) ∈ l)) 32
theorem ofR_bit (l : List Int) (i : Nat) (hi : i < 32) : (ofR l).getLsbD i = decide ((i : Int) ∈ l) := by
  unfold ofR; rw [pre_bit _ _ i hi]; simp [hi]
theorem ofL_eq (l : List Int) : ofL l = ofR l := by
  apply BitVec.eq_of_getLsbD_eq; intro i hi
  rw [ofL_bit l i hi, ofR_bit l i hi]

/-- Those above a number and below another one. -/
def btw (x : BitVec 32) (a b : Int) : BitVec 32 := pre (fun k => x.getLsbD k && (decide (a < (k : Int)) && decide ((k : Int) < b))) 32
theorem btw_bit (x : BitVec 32) (a b : Int) (i : Nat) (hi : i < 32) : (btw x a b).getLsbD i = (x.getLsbD i && (decide (a < (i : Int)) && decide ((i : Int) < b))) := by
  unfold btw; rw [pre_bit _ _ i hi]; simp [hi]
def mid (x : BitVec 32) (a b : Int) : List Int := (ints (lst x 32)).filter fun k => decide (a < k) && decide (k < b)
theorem ofR_mid (x : BitVec 32) (a b : Int) : ofR (mid x a b) = btw x a b := by
  apply BitVec.eq_of_getLsbD_eq; intro i hi
  rw [ofR_bit _ i hi, btw_bit _ _ _ i hi]
  have : (i : Int) ∈ mid x a b ↔ (x.getLsbD i = true ∧ (a < (i : Int) ∧ (i : Int) < b)) := by
    unfold mid
    rw [List.mem_filter, mem_ints, Int.toNat_natCast, mem_lst]
    simp [hi]
  rw [Bool.eq_iff_iff, decide_eq_true_iff, this]
  simp

/-- The numbers below m. -/
def low (m : Nat) : BitVec 32 := BitVec.ofNat 32 (2 ^ m - 1)
theorem low_bit (m i : Nat) (hi : i < 32) : (low m).getLsbD i = decide (i < m) := by
  unfold low
  rw [BitVec.getLsbD_ofNat, Nat.testBit_two_pow_sub_one]
  simp [hi]
def cut (n : Int) : Nat := (min (max n 0) 32).toNat
theorem low_int (m : Nat) (hm : m ≤ 32) : ((2 : Int) ^ m % (4294967296 : Int) - 1) % (4294967296 : Int) = w32 (low m) := by
  unfold w32 low
  rw [BitVec.toNat_ofNat]
  have h1 : 0 < 2 ^ m := Nat.two_pow_pos m
  have h2 : 2 ^ m ≤ 2 ^ 32 := Nat.pow_le_pow_right (by omega) hm
  have h3 : (2 : Int) ^ m = ((2 ^ m : Nat) : Int) := by simp
  rw [h3]
  omega
theorem below_eq (x : BitVec 32) (n : Int) : x &&& low (cut n) = btw x (-1) n := by
  apply BitVec.eq_of_getLsbD_eq; intro i hi
  rw [BitVec.getLsbD_and, low_bit _ i hi, btw_bit _ _ _ i hi]
  have h1 : (-1 : Int) < (i : Int) := by omega
  have h2 : i < cut n ↔ (i : Int) < n := by unfold cut; omega
  simp [h1, h2]
theorem above_eq (x : BitVec 32) (n : Int) : (x &&& ~~~btw x (-1) n) &&& ~~~onl n = btw x n 32 := by
  apply BitVec.eq_of_getLsbD_eq; intro i hi
  rw [BitVec.getLsbD_and, BitVec.getLsbD_and, BitVec.getLsbD_not, BitVec.getLsbD_not, onl_bit n i hi, btw_bit _ _ _ i hi, btw_bit _ _ _ i hi]
  have h1 : (-1 : Int) < (i : Int) := by omega
  have h3 : (i : Int) < 32 := by omega
  cases hx : x.getLsbD i
  · simp
  · by_cases a : (i : Int) < n
    · have : ¬ n < (i : Int) := by omega
      simp [hi, h1, a, this]
    · by_cases b : (i : Int) = n
      · have : ¬ n < (i : Int) := by omega
        simp [hi, b]
      · have : n < (i : Int) := by omega
        simp [hi, a, b, h3, this]
theorem with_eq (x : BitVec 32) (n : Int) : ofR (ints (lst x 32) ++ [n]) = x ||| onl n := by
  apply BitVec.eq_of_getLsbD_eq; intro i hi
  rw [ofR_bit _ i hi, BitVec.getLsbD_or, onl_bit n i hi, Bool.eq_iff_iff, decide_eq_true_iff, List.mem_append, mem_ints, Int.toNat_natCast, mem_lst]
  simp [hi]
theorem without_eq (x : BitVec 32) (n : Int) (_hn : 0 ≤ n) : btw x (-1) n + btw x n 32 = x &&& ~~~onl n := by
  have h0 : btw x (-1) n &&& btw x n 32 = 0#32 := by
    apply BitVec.eq_of_getLsbD_eq; intro i hi
    rw [BitVec.getLsbD_and, btw_bit _ _ _ i hi, btw_bit _ _ _ i hi]
    by_cases a : (i : Int) < n
    · have : ¬ n < (i : Int) := by omega
      simp [this]
    · simp [a]
  rw [BitVec.add_eq_or_of_and_eq_zero _ _ h0]
  apply BitVec.eq_of_getLsbD_eq; intro i hi
  rw [BitVec.getLsbD_or, BitVec.getLsbD_and, BitVec.getLsbD_not, onl_bit n i hi, btw_bit _ _ _ i hi, btw_bit _ _ _ i hi]
  have h1 : (-1 : Int) < (i : Int) := by omega
  have h3 : (i : Int) < 32 := by omega
  cases hx : x.getLsbD i
  · simp
  · by_cases a : (i : Int) < n
    · have : ¬ (i : Int) = n := by omega
      simp [hi, h1, a, this]
    · by_cases b : (i : Int) = n
      · have : ¬ n < (i : Int) := by omega
        simp [hi, b]
      · have : n < (i : Int) := by omega
        simp [hi, b, h3, this]
theorem without_neg (x : BitVec 32) (n : Int) (hn : n < 0) : x &&& ~~~onl n = x := by
  have : onl n = 0#32 := by unfold onl; rw [if_neg (by omega)]
  rw [this]
  apply BitVec.eq_of_getLsbD_eq; intro i hi
  rw [BitVec.getLsbD_and, BitVec.getLsbD_not]
  simp [hi, -BitVec.not_zero]
theorem has_eq (x : BitVec 32) (n : Int) : (x &&& onl n != 0#32) = decide (n ∈ ints (lst x 32)) := by
  rw [Bool.eq_iff_iff, bne_iff_ne, decide_eq_true_iff, mem_ints, mem_lst]
  constructor
  · intro h
    by_cases hn : 0 ≤ n ∧ n < 32
    · refine ⟨hn.1, by omega, ?_⟩
      cases hx : x.getLsbD n.toNat
      · exfalso; apply h
        apply BitVec.eq_of_getLsbD_eq; intro i hi
        rw [BitVec.getLsbD_and, onl_bit n i hi]
        by_cases e : (i : Int) = n
        · have : n.toNat = i := by omega
          rw [this] at hx; simp [hx]
        · simp [e]
      · rfl
    · exfalso; apply h
      have : onl n = 0#32 := by unfold onl; rw [if_neg hn]
      rw [this]; simp
  · rintro ⟨h0, h1, h2⟩ h
    have := congrArg (·.getLsbD n.toNat) h
    simp only [BitVec.getLsbD_and, onl_bit n n.toNat h1, h2] at this
    simp at this
    omega

end Go.Proofs.Ytmaackdfhmpicaa
