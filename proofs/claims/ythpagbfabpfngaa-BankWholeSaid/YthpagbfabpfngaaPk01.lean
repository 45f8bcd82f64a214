/- Several texts in one: Post, OB, KM, FM, KB, KS. -/
import Derived.Carry
import Derived.OpenVars
import Derived.ProofKit
import Derived.OpenShut
import Derived.Test.YthpagbfabpfngaaRows
import Derived.WalkKit
import Derived.Lib.SmallJoins
import Derived.Deep.Slices
import Derived.Deep.Strs
import Derived.Laws.BitsAllLaws
import Derived.Test.YthpagbfabpfngaaProg
import Derived.LoopTactic
import Derived.RegionTactic
import Derived.LoopN
import Derived.Below
import Derived.Outline
import Derived.Lib.Hide
import Derived.Deep.LoopGhost
import Derived.Laws.AppendOwn
import Derived.Maps.AppendAt
import Derived.Lib.SlBytesConst
import Derived.Deep.AppendLies
import Derived.Deep.RegionHeld3
import Derived.RangeFuncRecord
import Derived.BigRegion
/- A plain lemma of this prover's own: where a call returned true and nothing that lay before it has turned, what the law's row asks behind the call holds. No statement about the program. -/
namespace Go.Proofs.Ythpagbfabpfngaa
open Go.ChangeShapes Go.WideShapes Go.ChangeAt Go.RowKit

theorem trodAll_stays {H : Type} {enc : TypeId × Value → H} {P : Program} (hl : laidOutB P = true) {W W' : World} (hb : Below W.heap.size W W') :
    ∀ {ts : List TypeId} {vs : List Value} {ds : List (DataW H)} {ps : List MemPlace}, (ts.all fun t => P.readableRec t && decide (t < P.types.size)) = true →
      DataW.TrodAll enc P W 0 (fun _ => true) true ts vs ds ps → (∀ x ∈ ps, x.block < W.heap.size) → DataW.TrodAll enc P W' 0 (fun b => decide (b < W.heap.size)) true ts vs ds ps
  | [], [], [], _, _, h, _ => h
  | t :: ts, v :: vs, d :: ds, ps, hr, h, hlt => by
    obtain ⟨p, q, h1, h2, e⟩ := h
    simp only [List.all_cons, Bool.and_eq_true, decide_eq_true_eq] at hr
    refine ⟨p, q, Below.trod hl hr.1.1 hr.1.2 h1 hb (fun x hx => hlt x (by rw [e]; simp [hx])), trodAll_stays hl hb hr.2 h2 (fun x hx => hlt x (by rw [e]; simp [hx])), e⟩
  | [], [], _ :: _, _, _, h, _ => h.elim
  | [], _ :: _, _, _, _, h, _ => by cases ‹List (DataW H)› <;> exact h.elim
  | _ :: _, [], _, _, _, h, _ => by cases ‹List (DataW H)› <;> exact h.elim
  | _ :: _, _ :: _, [], _, _, h, _ => h.elim

theorem law_post {H : Type} {enc : TypeId × Value → H} {P : Program} {f : Func} {s : ChangeSpec} {fresh handsOn : Bool} {W W' : World} {args : Array Value} {ds gs : List (DataW H)} {before : List MemPlace} {tb : TypeId}
    (hl : laidOutB P = true) (hr : (f.params.toList.all fun t => P.readableRec t && decide (t < P.types.size)) = true) (hv : varsRowed P s.vars = true) (htb : f.resultTypes = #[tb]) (hub : P.underlying tb = some .bool)
    (hW : DataW.Whole enc P f.params.toList s.vars false W args.toList ds gs before) (hb : Below W.heap.size W W')
    (hres : (s.fn H (ds ++ gs)).results = [.lit (.bool true)]) (hargs : (s.fn H (ds ++ gs)).args = ds) (hvars : (s.fn H (ds ++ gs)).vars = gs) :
    s.post enc P f false fresh handsOn false W args (.bool true) W' := by
  have hlt : ∀ x ∈ before, x.block < W.heap.size := fun x hx => by simpa using hW.lt x hx
  have hW' := hW
  obtain ⟨p, q, hA, hV, rfl, hz, hn⟩ := hW
  refine ⟨ds, gs, _, [], p, q, hW', ?_, ?_, ?_, hb.frame _, fun h => by cases h⟩
  · rw [hres, htb]
    exact trodAll_cons_mk (shut_bool hub true) trodAll_mk0
  · rw [hargs]; exact trodAll_stays hl hb hr hA (fun x hx => hlt x (by simp [hx]))
  · rw [hvars]; exact Below.trodVars hl hb hv hV

end Go.Proofs.Ythpagbfabpfngaa
/- Plain facts for the law texts of bank: what a struct of two numbers that a row hands in is. No statement about the program's functions. -/
namespace Go.Proofs.Ythpagbfabpfngaa
open Go.ChangeShapes Go.WideShapes Go.ChangeAt Go.RowKit Go.Deep Go.Joins

theorem own : ownKnob Try.prog.godebug = none := by kernel_rfl
theorem laidOut : laidOutB Try.prog = true := by kernel_rfl
theorem word_of {n : Int} (h : (Lit.int .u32 n).wf = true) : 0 ≤ n ∧ n < 4294967296 := by
  simp [Lit.wf, IntKind.min, IntKind.max, IntKind.signed, IntKind.bits] at h
  omega
theorem int_of {n : Int} (h : (Lit.int .i64 n).wf = true) : -9223372036854775808 ≤ n ∧ n ≤ 9223372036854775807 := by
  simp [Lit.wf, IntKind.min, IntKind.max, IntKind.signed, IntKind.bits] at h
  omega
section
variable {H : Type} {enc : TypeId × Value → H} {w : World} {base : Nat} {spare : Nat → Bool} {held : Bool}
set_option maxRecDepth 100000 in
/-- A struct of two numbers, by value. -/
theorem open_place {r : Reach} {b0 : Nat} {v : Value} {d : DataW H} {p : List MemPlace} (hv : Value.okWide Try.prog w r b0 23 v) (h : DataW.Trod enc Try.prog w base spare held 23 v d p) :
    ∃ x1 x2 : Int, v = .agg #[.int .i64 x1, .int .i64 x2] ∧ (-9223372036854775808 ≤ x1 ∧ x1 ≤ 9223372036854775807) ∧ (-9223372036854775808 ≤ x2 ∧ x2 ≤ 9223372036854775807) := by
  obtain ⟨v0, v1, y0, y1, n, rfl, -, -, t0, t1⟩ := open_agg2 Try.underlying23 (by kernel_rfl) (by kernel_rfl) hv h
  obtain ⟨n0, e0, _, f0⟩ := DataW.trod_int Try.underlying3 t0
  obtain ⟨n1, e1, _, f1⟩ := DataW.trod_int Try.underlying3 t1
  simp at e0 e1
  subst e0 e1
  exact ⟨_, _, rfl, int_of f0, int_of f1⟩
end
end Go.Proofs.Ythpagbfabpfngaa
/- The sum bit by bit as a plain function on words of 32 bits: that it adds (exclusive or) and that it loses nothing. No statement about the program. -/
namespace Go.Proofs.Ythpagbfabpfngaa

def poly : BitVec 32 := 0xedb88320#32
/-- One bit comes. -/
def stp (r : BitVec 32) (b : Bool) : BitVec 32 := (r >>> 1) ^^^ (if (r.getLsbD 0 != b) then poly else 0#32)
/-- The first i bits of a byte come. -/
def byts (r : BitVec 32) (b : BitVec 8) : Nat → BitVec 32
  | 0 => r
  | i + 1 => stp (byts r b i) (b.getLsbD i)
def byt (r : BitVec 32) (b : BitVec 8) : BitVec 32 := byts r b 8
/-- Byte i of a word, the highest first. -/
def part (w : BitVec 32) (i : Nat) : BitVec 8 := (w >>> (24 - 8 * i)).setWidth 8
def wrds (r : BitVec 32) (w : BitVec 32) : Nat → BitVec 32
  | 0 => r
  | i + 1 => byt (wrds r w i) (part w i)
def wrd (r : BitVec 32) (w : BitVec 32) : BitVec 32 := wrds r w 4

theorem stp_add (r s : BitVec 32) (b c : Bool) : stp (r ^^^ s) (b ^^ c) = stp r b ^^^ stp s c := by
  have e : (r ^^^ s) >>> 1 = (r >>> 1) ^^^ (s >>> 1) := by
    apply BitVec.eq_of_getLsbD_eq; intro i _; simp
  unfold stp
  rw [e]
  simp only [BitVec.getLsbD_xor]
  have ac : ∀ x y p q : BitVec 32, (x ^^^ y) ^^^ (p ^^^ q) = (x ^^^ p) ^^^ (y ^^^ q) := by
    intro x y p q
    apply BitVec.eq_of_getLsbD_eq; intro i _
    simp only [BitVec.getLsbD_xor]
    cases x.getLsbD i <;> cases y.getLsbD i <;> cases p.getLsbD i <;> cases q.getLsbD i <;> rfl
  rw [← ac]
  congr 1
  cases r.getLsbD 0 <;> cases s.getLsbD 0 <;> cases b <;> cases c <;> simp [poly]
theorem byts_add (r s : BitVec 32) (b c : BitVec 8) : ∀ i, byts (r ^^^ s) (b ^^^ c) i = byts r b i ^^^ byts s c i
  | 0 => rfl
  | i + 1 => by
    simp only [byts, byts_add r s b c i, BitVec.getLsbD_xor]
    exact stp_add _ _ _ _
theorem byt_add (r s : BitVec 32) (b c : BitVec 8) : byt (r ^^^ s) (b ^^^ c) = byt r b ^^^ byt s c := byts_add r s b c 8
theorem part_add (u v : BitVec 32) (i : Nat) : part (u ^^^ v) i = part u i ^^^ part v i := by
  apply BitVec.eq_of_getLsbD_eq; intro j hj
  simp [part, hj]
theorem wrds_add (r s u v : BitVec 32) : ∀ i, wrds (r ^^^ s) (u ^^^ v) i = wrds r u i ^^^ wrds s v i
  | 0 => rfl
  | i + 1 => by
    simp only [wrds, wrds_add r s u v i, part_add]
    exact byt_add _ _ _ _
theorem wrd_add (r s u v : BitVec 32) : wrd (r ^^^ s) (u ^^^ v) = wrd r u ^^^ wrd s v := wrds_add r s u v 4

theorem stp_zero {r : BitVec 32} (h : stp r false = 0#32) : r = 0#32 := by
  unfold stp at h
  have h0 : r.getLsbD 0 = false := by
    cases hb : r.getLsbD 0
    · rfl
    · rw [hb] at h
      have := congrArg (·.getLsbD 31) h
      simp [poly] at this
  rw [h0] at h
  simp at h
  apply BitVec.eq_of_getLsbD_eq
  intro i hi
  cases i with
  | zero => simpa using h0
  | succ i =>
    have := congrArg (·.getLsbD i) h
    simp at this
    rw [Nat.add_comm] at this
    simpa using this
theorem byts_zero {r : BitVec 32} : ∀ i, byts r 0#8 i = 0#32 → r = 0#32
  | 0, h => h
  | i + 1, h => byts_zero i (stp_zero (by simpa [byts] using h))
theorem kpart_zero (i : Nat) : part 0#32 i = 0#8 := by simp [part]
theorem wrds_zero {r : BitVec 32} : ∀ i, wrds r 0#32 i = 0#32 → r = 0#32
  | 0, h => h
  | i + 1, h => wrds_zero i (by
    have h' : byt (wrds r 0#32 i) 0#8 = 0#32 := by simpa [wrds, kpart_zero] using h
    exact byts_zero 8 h')
theorem wrd_inj {r s : BitVec 32} (w : BitVec 32) (h : wrd r w = wrd s w) : r = s := by
  have e := wrd_add r s w w
  rw [h] at e
  simp only [BitVec.xor_self] at e
  have := wrds_zero 4 e
  have h2 := congrArg (· ^^^ s) this
  simpa [BitVec.xor_assoc] using h2
theorem wrd_bit (k : Nat) (hk : k < 32) : wrd 0#32 (1#32 <<< k) ≠ 0#32 := by
  have : ∀ k : Fin 32, wrd 0#32 (1#32 <<< k.val) ≠ 0#32 := by decide +kernel
  exact this ⟨k, hk⟩

/-- All bits set. -/
def ones : BitVec 32 := 4294967295#32
/-- The sum of words. -/
def runW (r : BitVec 32) (l : List (BitVec 32)) : BitVec 32 := l.foldl wrd r
def crcW (l : List (BitVec 32)) : BitVec 32 := ~~~ runW (ones) l
def runB (r : BitVec 32) (l : List (BitVec 8)) : BitVec 32 := l.foldl byt r
def crcB (l : List (BitVec 8)) : BitVec 32 := ~~~ runB (ones) l

theorem runW_inj (l : List (BitVec 32)) {r s : BitVec 32} (h : runW r l = runW s l) : r = s := by
  induction l generalizing r s with
  | nil => exact h
  | cons w l ih => exact wrd_inj w (ih h)
theorem not_inj {a b : BitVec 32} (h : ~~~a = ~~~b) : a = b := by
  have := congrArg (~~~ ·) h; simpa using this
theorem crcW_bit (l1 l2 : List (BitVec 32)) (w : BitVec 32) (k : Nat) (hk : k < 32) : crcW (l1 ++ (w ^^^ 1#32 <<< k) :: l2) ≠ crcW (l1 ++ w :: l2) := by
  intro h
  have h1 := not_inj h
  simp only [runW, List.foldl_append, List.foldl_cons] at h1
  have h2 := runW_inj l2 h1
  have e := wrd_add (l1.foldl wrd (ones)) 0#32 w (1#32 <<< k)
  simp only [BitVec.xor_zero] at e
  rw [e] at h2
  have h3 := congrArg (wrd (l1.foldl wrd (ones)) w ^^^ ·) h2
  simp only [← BitVec.xor_assoc, BitVec.xor_self, BitVec.zero_xor] at h3
  exact wrd_bit k hk h3
theorem runW_add : ∀ (a b c : List (BitVec 32)) (r s t : BitVec 32), a.length = b.length → a.length = c.length →
    runW (r ^^^ s ^^^ t) (List.zipWith (· ^^^ ·) (List.zipWith (· ^^^ ·) a b) c) = runW r a ^^^ runW s b ^^^ runW t c
  | [], [], [], _, _, _, _, _ => rfl
  | x :: a, y :: b, z :: c, r, s, t, h1, h2 => by
    simp only [List.zipWith_cons_cons, runW, List.foldl_cons, wrd_add]
    exact runW_add a b c _ _ _ (by simpa using h1) (by simpa using h2)
  | [], _ :: _, _, _, _, _, h, _ => by simp at h
  | [], [], _ :: _, _, _, _, _, h => by simp at h
  | _ :: _, [], _, _, _, _, h, _ => by simp at h
  | _ :: _, _ :: _, [], _, _, _, _, h => by simp at h
theorem crcW_add (a b c : List (BitVec 32)) (h1 : a.length = b.length) (h2 : a.length = c.length) :
    crcW (List.zipWith (· ^^^ ·) (List.zipWith (· ^^^ ·) a b) c) = crcW a ^^^ crcW b ^^^ crcW c := by
  have h := runW_add a b c (ones) (ones) (ones) h1 h2
  simp only [BitVec.xor_self, BitVec.zero_xor] at h
  unfold crcW
  rw [h]
  apply BitVec.eq_of_getLsbD_eq; intro i hi
  simp [hi]

/-- The bytes of words, the highest of each one first. -/
def bytesOf (l : List (BitVec 32)) : List (BitVec 8) := l.flatMap fun w => [part w 0, part w 1, part w 2, part w 3]
theorem runB_bytes (l : List (BitVec 32)) (r : BitVec 32) : runB r (bytesOf l) = runW r l := by
  induction l generalizing r with
  | nil => rfl
  | cons w l ih =>
    have : bytesOf (w :: l) = part w 0 :: part w 1 :: part w 2 :: part w 3 :: bytesOf l := rfl
    rw [this]
    exact ih _
theorem crcB_bytes (l : List (BitVec 32)) : crcB (bytesOf l) = crcW l := by unfold crcB crcW; rw [runB_bytes]
theorem crcB_alive : crcB [0x31#8, 0x32#8, 0x33#8, 0x34#8, 0x35#8, 0x36#8, 0x37#8, 0x38#8, 0x39#8] = 0xcbf43926#32 := by decide +kernel

end Go.Proofs.Ythpagbfabpfngaa
/- Words of 32 bits as numbers, bit by bit: plain facts. No statement about the program. -/
namespace Go.Proofs.Ythpagbfabpfngaa

def w32 (x : BitVec 32) : Int := (x.toNat : Int)
theorem w32_lt (x : BitVec 32) : 0 ≤ w32 x ∧ w32 x < 4294967296 := by unfold w32; have := x.isLt; omega
theorem ofInt_w32 (x : BitVec 32) : BitVec.ofInt 32 (w32 x) = x := by unfold w32; simp
theorem wrap_w32 (x : BitVec 32) : IntKind.u32.wrap (x.toNat : Int) = w32 x := by
  have := x.isLt; rw [IntKind.wrap_u32']; unfold w32; omega
theorem bits_and32 (x y : Int) : bits .and .u32 x y = w32 (BitVec.ofInt 32 x &&& BitVec.ofInt 32 y) := wrap_w32 _
theorem bits_or32 (x y : Int) : bits .or .u32 x y = w32 (BitVec.ofInt 32 x ||| BitVec.ofInt 32 y) := wrap_w32 _
theorem bits_andNot32 (x y : Int) : bits .andNot .u32 x y = w32 (BitVec.ofInt 32 x &&& ~~~BitVec.ofInt 32 y) := wrap_w32 _
theorem bits_xor32 (x y : Int) : bits .xor .u32 x y = w32 (BitVec.ofInt 32 x ^^^ BitVec.ofInt 32 y) := wrap_w32 _
theorem and32 (x y : BitVec 32) : bits .and .u32 (w32 x) (w32 y) = w32 (x &&& y) := by rw [bits_and32, ofInt_w32, ofInt_w32]
theorem or32 (x y : BitVec 32) : bits .or .u32 (w32 x) (w32 y) = w32 (x ||| y) := by rw [bits_or32, ofInt_w32, ofInt_w32]
theorem andNot32 (x y : BitVec 32) : bits .andNot .u32 (w32 x) (w32 y) = w32 (x &&& ~~~y) := by rw [bits_andNot32, ofInt_w32, ofInt_w32]
theorem not32 (x : BitVec 32) : bits .xor .u32 IntKind.u32.max (w32 x) = w32 (~~~x) := by
  rw [bits_xor32, ofInt_w32]
  congr 1
theorem w32_inj {x y : BitVec 32} : w32 x = w32 y ↔ x = y := by
  unfold w32
  constructor
  · intro h; apply BitVec.eq_of_toNat_eq; omega
  · rintro rfl; rfl
theorem w32_zero : (0 : Int) = w32 0#32 := rfl
theorem shl_one (n : Nat) (_hn : n ≤ 32) : (2 : Int) ^ n % (4294967296 : Int) = w32 (1#32 <<< n) := by
  unfold w32
  rw [BitVec.toNat_shiftLeft, Nat.shiftLeft_eq]
  simp
theorem add32 (x y : BitVec 32) : (w32 x + w32 y) % (4294967296 : Int) = w32 (x + y) := by
  unfold w32
  rw [BitVec.toNat_add]
  omega

/-- The numbers below n for which p holds. -/
def pre (p : Nat → Bool) : Nat → BitVec 32
  | 0 => 0#32
  | n + 1 => if p n then pre p n ||| 1#32 <<< n else pre p n
theorem one_bit (n i : Nat) (hi : i < 32) : (1#32 <<< n).getLsbD i = decide (i = n) := by
  rw [BitVec.getLsbD_shiftLeft]
  by_cases e : i = n
  · subst e; simp [hi]
  · by_cases hl : i < n
    · simp [hl, e]
    · have : i - n ≠ 0 := by omega
      simp [e, this]
theorem pre_bit (p : Nat → Bool) (n i : Nat) (hi : i < 32) : (pre p n).getLsbD i = (decide (i < n) && p i) := by
  induction n with
  | zero => simp [pre]
  | succ n ih =>
    unfold pre
    by_cases hp : p n = true
    · rw [if_pos hp, BitVec.getLsbD_or, ih, one_bit n i hi]
      by_cases e : i = n
      · subst e; simp [hp]
      · have : (i < n + 1) ↔ (i < n) := by omega
        simp [e, this]
    · rw [if_neg hp, ih]
      by_cases e : i = n
      · subst e; simp [hp]
      · have : (i < n + 1) ↔ (i < n) := by omega
        simp [this]
theorem pre_ext (p q : Nat → Bool) (n : Nat) (h : ∀ i, i < n → p i = q i) : pre p n = pre q n := by
  induction n with
  | zero => rfl
  | succ n ih =>
    unfold pre
    rw [h n (by omega), ih (fun i hi => h i (by omega))]
theorem pre_add (p : Nat → Bool) (n : Nat) (hn : n < 32) : (w32 (pre p n) + w32 (1#32 <<< n)) % (4294967296 : Int) = w32 (pre p n ||| 1#32 <<< n) := by
  rw [add32]
  congr 1
  apply BitVec.add_eq_or_of_and_eq_zero
  apply BitVec.eq_of_getLsbD_eq; intro i hi
  rw [BitVec.getLsbD_and, pre_bit p n i hi, one_bit n i hi]
  by_cases e : i = n
  · subst e; simp
  · simp [e]

/-- Does p hold for all below n? -/
def allB (p : Nat → Bool) : Nat → Bool
  | 0 => true
  | n + 1 => allB p n && p n
theorem allB_iff (p : Nat → Bool) (n : Nat) : allB p n = true ↔ ∀ i, i < n → p i = true := by
  induction n with
  | zero => simp [allB]
  | succ n ih =>
    unfold allB
    rw [Bool.and_eq_true, ih]
    constructor
    · rintro ⟨h1, h2⟩ i hi
      by_cases e : i = n
      · subst e; exact h2
      · exact h1 i (by omega)
    · intro h; exact ⟨fun i hi => h i (by omega), h n (by omega)⟩
theorem allB_no (p : Nat → Bool) (n k : Nat) (hk : k < n) (h : p k = false) : allB p n = false := by
  cases ha : allB p n
  · rfl
  · have := (allB_iff p n).1 ha k hk; rw [h] at this; cases this

theorem bit_int (x : BitVec 32) (k : Nat) : (w32 x / 2 ^ k % 2 == 1) = x.getLsbD k := by
  have e : w32 x / 2 ^ k = ((x.toNat / 2 ^ k : Nat) : Int) := by unfold w32; simp
  rw [e]
  show _ = x.toNat.testBit k
  rw [Nat.testBit_eq_decide_div_mod_eq]
  by_cases h : x.toNat / 2 ^ k % 2 = 1
  · have : ((x.toNat / 2 ^ k : Nat) : Int) % 2 = 1 := by omega
    rw [this]; simp [h]
  · have : ((x.toNat / 2 ^ k : Nat) : Int) % 2 = 0 := by omega
    rw [this]; simp [h]

theorem bit_tmod (x : BitVec 32) (k : Nat) (b : Bool) (hb : x.getLsbD k = b) : ((w32 x / 2 ^ k).tmod 2 == 1) = b := by
  rw [← hb, ← bit_int, Int.tmod_eq_emod_of_nonneg]
  exact Int.ediv_nonneg (w32_lt x).1 (Int.le_of_lt (Int.pow_pos (by decide)))

/-- Are all bits of x those of y? -/
def within (x y : BitVec 32) : Bool := x &&& ~~~y == 0#32
theorem within_int (x y : BitVec 32) : (w32 (x &&& ~~~y) == 0) = within x y := by
  unfold within
  rw [Bool.eq_iff_iff, beq_iff_eq, beq_iff_eq, w32_zero, w32_inj]
theorem within_iff (x y : BitVec 32) : within x y = true ↔ ∀ i, i < 32 → x.getLsbD i = true → y.getLsbD i = true := by
  unfold within
  rw [beq_iff_eq]
  constructor
  · intro h i hi hx
    have := congrArg (·.getLsbD i) h
    simp only [BitVec.getLsbD_and, BitVec.getLsbD_not, hx, hi] at this
    simpa using this
  · intro h
    apply BitVec.eq_of_getLsbD_eq; intro i hi
    rw [BitVec.getLsbD_and, BitVec.getLsbD_not]
    cases hx : x.getLsbD i
    · simp
    · simp [hi, h i hi hx]
/-- A bit. -/
def bt (x : BitVec 32) (i : Nat) : Bool := x.getLsbD i
def fellP (a b c : BitVec 32) (i : Nat) : Bool := !((bt c i && !bt a i) || (bt b i && !bt c i))
theorem fell_eq (a b c : BitVec 32) : (within c a && within b c) = allB (fellP a b c) 32 := by
  rw [Bool.eq_iff_iff, Bool.and_eq_true, within_iff, within_iff, allB_iff]
  constructor
  · rintro ⟨h1, h2⟩ i hi
    have h1 := h1 i hi
    have h2 := h2 i hi
    unfold fellP bt
    revert h1 h2
    cases a.getLsbD i <;> cases b.getLsbD i <;> cases c.getLsbD i <;> simp
  · intro h
    constructor
    all_goals
      intro i hi hx
      have := h i hi
      unfold fellP bt at this
      revert this hx
      cases a.getLsbD i <;> cases b.getLsbD i <;> cases c.getLsbD i <;> simp
def roseP (a c : BitVec 32) (i : Nat) : Bool := !(bt a i && !bt c i)
theorem rose_eq (a c : BitVec 32) : within a c = allB (roseP a c) 32 := by
  rw [Bool.eq_iff_iff, within_iff, allB_iff]
  constructor
  · intro h i hi
    have h := h i hi
    unfold roseP bt
    revert h
    cases a.getLsbD i <;> cases c.getLsbD i <;> simp
  · intro h i hi hx
    have := h i hi
    unfold roseP bt at this
    revert this hx
    cases a.getLsbD i <;> cases c.getLsbD i <;> simp
def fallsP (a b c : BitVec 32) (i : Nat) : Bool := bt a i && (bt b i || bt c i)
theorem falls_eq (a b c : BitVec 32) : a &&& (b ||| c) = pre (fallsP a b c) 32 := by
  apply BitVec.eq_of_getLsbD_eq; intro i hi
  rw [pre_bit _ _ i hi, BitVec.getLsbD_and, BitVec.getLsbD_or]
  simp [fallsP, bt, hi]
def risesP (a c : BitVec 32) (i : Nat) : Bool := bt a i || bt c i
theorem rises_eq (a c : BitVec 32) : a ||| c = pre (risesP a c) 32 := by
  apply BitVec.eq_of_getLsbD_eq; intro i hi
  rw [pre_bit _ _ i hi, BitVec.getLsbD_or]
  simp [risesP, bt, hi]
theorem other_int (x : BitVec 32) : (4294967295 - w32 x) % (4294967296 : Int) = w32 (~~~x) := by
  have := x.isLt
  unfold w32
  rw [BitVec.toNat_not]
  omega

/-- The mask behind another one. -/
def nxt (x : BitVec 32) : BitVec 32 :=
  let y := x ^^^ x <<< 13
  let z := y ^^^ y >>> 17
  z ^^^ z <<< 5
theorem shl_int (x : BitVec 32) (k : Nat) : w32 x * 2 ^ k % (4294967296 : Int) = w32 (x <<< k) := by
  unfold w32
  rw [BitVec.toNat_shiftLeft, Nat.shiftLeft_eq]
  simp
theorem shr_int (x : BitVec 32) (k : Nat) : w32 x / 2 ^ k = w32 (x >>> k) := by
  unfold w32
  rw [BitVec.toNat_ushiftRight, Nat.shiftRight_eq_div_pow]
  simp
theorem xor32 (x y : BitVec 32) : bits .xor .u32 (w32 x) (w32 y) = w32 (x ^^^ y) := by rw [bits_xor32, ofInt_w32, ofInt_w32]

end Go.Proofs.Ythpagbfabpfngaa
/- The contracts of crc's Byte, Word, Value, Many and Words: each leaves the sum that the plain function says. -/
namespace Go.Proofs.Ythpagbfabpfngaa
open Go.RowKit

def w8 (x : BitVec 8) : Int := (x.toNat : Int)

theorem w8_lt (x : BitVec 8) : 0 ≤ w8 x ∧ w8 x < 256 := by unfold w8; have := x.isLt; omega
theorem half32 (x : BitVec 32) : w32 x / (2 : Int) = w32 (x >>> (1 : Nat)) := by
  unfold w32; rw [BitVec.toNat_ushiftRight, Nat.shiftRight_eq_div_pow]; omega
theorem bit_nat (n k : Nat) : (n / 2 ^ k) % 2 = (n.testBit k).toNat := by
  rw [Nat.testBit_eq_decide_div_mod_eq]
  have : n / 2 ^ k % 2 < 2 := Nat.mod_lt _ (by omega)
  by_cases h : n / 2 ^ k % 2 = 1 <;> simp [h]
  omega
theorem shr8 (b : BitVec 8) (k : Nat) : w8 b / 2 ^ k = ((b.toNat / 2 ^ k : Nat) : Int) := by
  unfold w8; simp
theorem bit_test (r : BitVec 32) (b : BitVec 8) (k : Nat) :
    (bits .and .u32 (bits .xor .u32 (w32 r) (w8 b / 2 ^ k % 4294967296)) 1 == 1) = (r.getLsbD 0 != b.getLsbD k) := by
  have e1 : w8 b / 2 ^ k % 4294967296 = w32 ((b >>> k).setWidth 32) := by
    rw [shr8]; unfold w32
    rw [BitVec.toNat_setWidth, BitVec.toNat_ushiftRight, Nat.shiftRight_eq_div_pow]
    omega
  rw [e1, xor32, bits_and32, ofInt_w32]
  have e2 : (BitVec.ofInt 32 1) = 1#32 := by decide
  rw [e2]
  have e3 : (1 : Int) = w32 1#32 := by decide
  rw [e3]
  have e4 : ∀ z : BitVec 32, (w32 (z &&& 1#32) == w32 1#32) = z.getLsbD 0 := by
    intro z
    cases hz : z.getLsbD 0
    · have : z &&& 1#32 = 0#32 := by
        apply BitVec.eq_of_getLsbD_eq; intro i hi
        cases i with
        | zero => simpa using hz
        | succ i => simp
      rw [this]; decide
    · have : z &&& 1#32 = 1#32 := by
        apply BitVec.eq_of_getLsbD_eq; intro i hi
        cases i with
        | zero => simpa using hz
        | succ i => simp
      rw [this]; decide
  rw [e4]
  have e5 : b.getLsbD k = true → k < 32 := fun h => by
    by_cases hk : k < 8
    · omega
    · rw [BitVec.getLsbD_of_ge _ _ (by omega)] at h; cases h
  cases h : b.getLsbD k
  · simp [h]
  · simp [h, e5 h]

theorem poly_int : (3988292384 : Int) = w32 poly := by decide

/-- Where a sum lies: its value and how many bytes there were. -/
def SumAt (w : World) (B : Nat) (r : BitVec 32) (m : Int) : Prop :=
  (w.cell? ⟨B, 0, none⟩ = some (.int .u32 (w32 (~~~r))) ∧ w.cell? ⟨B, 1, none⟩ = some (.int .i64 m)) ∧ (w.frozen? ⟨B, 0, none⟩ = false ∧ w.frozen? ⟨B, 1, none⟩ = false)

theorem byte_any (B : Nat) (r : BitVec 32) (b : BitVec 8) (m : Int) (hm : 0 ≤ m ∧ m < 9223372036854775807) (w : World) (h : SumAt w B r m) :
    Calls Try.prog 108 #[.pointer (some ⟨B, 0, none⟩), .int .u8 (w8 b)] w fun e w' => e = .returned (.tuple #[]) ∧ SumAt w' B (byt r b) (m + 1) ∧ Below B w w' ∧ w'.heap.size = w.heap.size := by
  obtain ⟨⟨h0, h1⟩, f0, f1⟩ := h
  have hn : bits .xor .u32 IntKind.u32.max (w32 (~~~r)) = w32 r := by rw [not32]; simp
  go_enter Try.func108, Try.ntmps108
  go_wp2
  go_loopg [4, 12] 8 (fun g v i wr => ∃ (k : Nat), k + g = 8 ∧ i = .int .i64 k ∧ v = .int .u32 (w32 (byts r b k)) ∧ Aside (w = wr))
  case atStart => exact ⟨0, by omega, rfl, rfl, rfl⟩
  case round =>
    obtain ⟨k, hkg, rfl, rfl, hw⟩ := hrel
    obtain rfl := hw.out
    clear hw
    cases gk with
    | zero =>
      obtain rfl : k = 8 := by omega
      have hz := not32 (byts r b 8)
      go_wp2
      go_end0
      refine ⟨rfl, ⟨⟨by simp [go_sem, h0]; rfl, by simp [go_sem, h1]⟩, by simp [go_sem, f0], by simp [go_sem, f1]⟩, ((Below.refl B w).setCell (by simp) _).setCell (by simp) _, by simp⟩
    | succ g1 =>
      have ht := bit_test (byts r b k) b k
      have hx := xor32 (byts r b k >>> 1) poly
      rw [← poly_int] at hx
      rw [← half32] at hx
      cases hu : ((byts r b k).getLsbD 0 != b.getLsbD k)
      · rw [hu] at ht
        have HU : Aside (((byts r b k).getLsbD 0 != b.getLsbD k) = false) := hu
        clear hu
        go_wp2
        go_roundg g1
        case measure => omega
        case rel => exact ⟨k + 1, by omega, by go_num, by show _ = Value.int IntKind.u32 (w32 (stp _ _)); unfold stp; rw [HU.out, half32]; simp, rfl⟩
      · rw [hu] at ht
        have HU : Aside (((byts r b k).getLsbD 0 != b.getLsbD k) = true) := hu
        clear hu
        go_wp2
        go_roundg g1
        case measure => omega
        case rel => exact ⟨k + 1, by omega, by go_num, by show _ = Value.int IntKind.u32 (w32 (stp _ _)); unfold stp; rw [HU.out]; simp, rfl⟩

theorem SumAt.below {w w' : World} {B B' : Nat} {r : BitVec 32} {m : Int} (h : SumAt w B r m) (hb : Below B' w w') (hlt : B < B') : SumAt w' B r m := by
  obtain ⟨⟨h0, h1⟩, f0, f1⟩ := h
  have e : ∀ o, w'.frozen? ⟨B, o, none⟩ = w.frozen? ⟨B, o, none⟩ := fun o => by unfold World.frozen?; rw [hb.block B hlt]
  exact ⟨⟨(hb.cell (p := ⟨B, 0, none⟩) hlt).trans h0, (hb.cell (p := ⟨B, 1, none⟩) hlt).trans h1⟩, (e 0).trans f0, (e 1).trans f1⟩

theorem value_any (B : Nat) (r : BitVec 32) (m : Int) (w : World) (h : SumAt w B r m) :
    Calls Try.prog 80 #[.pointer (some ⟨B, 0, none⟩)] w fun e w' => e = .returned (.int .u32 (w32 (~~~r))) ∧ w = w' := by
  obtain ⟨⟨h0, h1⟩, f0, f1⟩ := h
  go_enter Try.func80, Try.ntmps80
  go_wp2
  go_ret
  exact ⟨rfl, rfl⟩

theorem part_int (x : BitVec 32) (k : Nat) : w32 x / 2 ^ (24 - 8 * k) % 256 = w8 (part x k) := by
  have e : w32 x / 2 ^ (24 - 8 * k) = ((x.toNat / 2 ^ (24 - 8 * k) : Nat) : Int) := by unfold w32; simp
  rw [e]
  unfold w8 part
  rw [BitVec.toNat_setWidth, BitVec.toNat_ushiftRight, Nat.shiftRight_eq_div_pow]
  omega

theorem word_any (B : Nat) (r x : BitVec 32) (m : Int) (hm : 0 ≤ m ∧ m < 9223372036854775803) (w : World) (h : SumAt w B r m) :
    Calls Try.prog 79 #[.pointer (some ⟨B, 0, none⟩), .int .u32 (w32 x)] w fun e w' => e = .returned (.tuple #[]) ∧ SumAt w' B (wrd r x) (m + 4) ∧ Below B w w' ∧ w'.heap.size = w.heap.size := by
  have H0 := Lib.hid h
  clear h
  go_enter Try.func79, Try.ntmps79
  go_wp2
  go_loopg [5] 4 (fun g i wr => ∃ (k : Nat), k + g = 4 ∧ i = .int .i64 k ∧ Aside (SumAt wr B (wrds r x k) (m + k) ∧ Below B w wr ∧ wr.heap.size = w.heap.size))
  case atStart => exact ⟨0, by omega, rfl, ⟨by simpa [wrds] using H0.out, Below.refl _ _, rfl⟩⟩
  case round =>
    obtain ⟨k, hkg, rfl, HW⟩ := hrel
    cases gk with
    | zero =>
      obtain rfl : k = 4 := by omega
      go_wp2
      go_end0
      exact ⟨rfl, HW.out⟩
    | succ g1 =>
      have hp := part_int x k
      go_wp2_with (go_at_call 108; refine (byte_any B (wrds r x k) (part x k) (m + k) (by omega) wr HW.out.1).mono ?_; rintro e w' ⟨rfl, hs, hb, hz⟩)
      go_roundg g1
      case measure => omega
      case rel =>
        refine ⟨k + 1, by omega, by go_num, ?_, HW.out.2.1.trans hb, hz.trans HW.out.2.2⟩
        rw [show m + ((k + 1 : Nat) : Int) = m + k + 1 by omega]
        exact hs

/-- The words of a slice, where they lie. -/
def rowW (l : List (BitVec 32)) : List Value := l.map fun x => .int .u32 (w32 x)
def nthW (l : List (BitVec 32)) (k : Nat) : BitVec 32 := l.getD k 0#32
theorem runW_snoc (r : BitVec 32) (l : List (BitVec 32)) (k : Nat) (h : k < l.length) : runW r (l.take (k + 1)) = wrd (runW r (l.take k)) (nthW l k) := by
  unfold runW; rw [List.take_succ_eq_append_getElem h, List.foldl_append]; show wrd _ _ = wrd _ _; congr 1; simp [nthW, h]
def nthB (l : List (BitVec 8)) (k : Nat) : BitVec 8 := l.getD k 0#8
theorem runB_snoc (r : BitVec 32) (l : List (BitVec 8)) (k : Nat) (h : k < l.length) : runB r (l.take (k + 1)) = byt (runB r (l.take k)) (nthB l k) := by
  unfold runB; rw [List.take_succ_eq_append_getElem h, List.foldl_append]; show byt _ _ = byt _ _; congr 1; simp [nthB, h]

theorem zero_not : Value.int IntKind.u32 0 = .int .u32 (w32 (~~~ones)) := rfl
theorem sum_new (w : World) : SumAt (w.alloc (.cells #[.int .u32 0, .int .i64 0] 97)) w.heap.size (ones) 0 := by
  refine ⟨⟨?_, ?_⟩, ?_, ?_⟩
  · rw [← zero_not]; simp [go_sem]
  · simp [go_sem]
  · simp [go_sem]
  · simp [go_sem]

theorem kwords_any (b off cap : Nat) (sp : Option Addr) (l : List (BitVec 32)) (w : World) (hl : l.length ≤ 500) (hsp : 0 < l.length → sp = some ⟨b, off, none⟩ ∧ b < w.heap.size)
    (hcell : ∀ k, k < l.length → w.cell? ⟨b, off + k, none⟩ = some (.int .u32 (w32 (nthW l k)))) :
    Calls Try.prog 48 #[.slice sp l.length cap] w fun e w' => e = .returned (.int .u32 (w32 (crcW l))) ∧ Below w.heap.size w w' := by
  have HC := Lib.hid hcell
  have HS := Lib.hid hsp
  clear hcell hsp
  have hn := sum_new w
  have b0 : Below w.heap.size w (w.alloc (.cells #[.int .u32 0, .int .i64 0] 97)) := (Below.refl _ _).alloc (Nat.le_refl _) _
  have HN := Lib.hid hn
  clear hn
  go_enter Try.func48, Try.ntmps48
  go_wp2
  go_loopg [8] l.length (fun g i wr => ∃ (k : Nat), k + g = l.length ∧ i = .int .i64 k ∧ Aside (SumAt wr w.heap.size (runW (ones) (l.take k)) ((4 * k : Nat) : Int) ∧ Below w.heap.size w wr))
  case atStart => exact ⟨0, by omega, rfl, ⟨by simpa [runW] using HN.out, b0⟩⟩
  case round =>
    obtain ⟨k, hkg, rfl, HW⟩ := hrel
    cases gk with
    | zero =>
      obtain rfl : k = l.length := by omega
      go_wp2_with (go_at_call 80; refine (value_any _ _ _ _ HW.out.1).mono ?_; rintro e w' ⟨rfl, rfl⟩)
      go_ret
      exact ⟨rfl, HW.out.2⟩
    | succ g1 =>
      have hlt : k < l.length := by omega
      obtain ⟨rfl, hbl⟩ := HS.out (by omega)
      have hc : wr.cell? ⟨b, off + k, none⟩ = some (.int .u32 (w32 (nthW l k))) := by rw [HW.out.2.cell (p := ⟨b, off + k, none⟩) hbl]; exact HC.out k hlt
      go_wp2_with (go_at_call 79; refine (word_any w.heap.size _ (nthW l k) _ (by omega) wr HW.out.1).mono ?_; rintro e w' ⟨rfl, hs, hb, hz⟩)
      go_roundg g1
      case measure => omega
      case rel =>
        refine ⟨k + 1, by omega, by go_num, ?_, HW.out.2.trans hb⟩
        rw [runW_snoc _ _ _ hlt, show ((4 * (k + 1) : Nat) : Int) = ((4 * k : Nat) : Int) + 4 by omega]
        exact hs

end Go.Proofs.Ythpagbfabpfngaa
/- The contracts of the law's sum and alive, and of the reference's Sum and Bytes. -/
namespace Go.Proofs.Ythpagbfabpfngaa
open Go.RowKit

def nine : List (BitVec 8) := [0x31#8, 0x32#8, 0x33#8, 0x34#8, 0x35#8, 0x36#8, 0x37#8, 0x38#8, 0x39#8]
theorem kodd_test (r : BitVec 32) (b : BitVec 8) (j : Nat) : ((w32 r).tmod 2 != (w8 b % 4294967296 / 2 ^ j).tmod 2) = (r.getLsbD 0 != b.getLsbD j) := by
  have e1 : w8 b % 4294967296 = w8 b := by have := w8_lt b; omega
  have e2 : (w32 r).tmod 2 = (((r.toNat % 2 : Nat)) : Int) := by unfold w32; rfl
  have e3 : (w8 b / 2 ^ j).tmod 2 = ((b.toNat / 2 ^ j % 2 : Nat) : Int) := by rw [shr8]; rfl
  rw [e1, e2, e3]
  have e4 := bit_nat r.toNat 0
  rw [Nat.pow_zero, Nat.div_one] at e4
  rw [e4, bit_nat b.toNat j]
  rw [BitVec.getLsbD, BitVec.getLsbD]
  cases r.toNat.testBit 0 <;> cases b.toNat.testBit j <;> rfl
theorem half_div (r : BitVec 32) : (w32 r).tdiv 2 % (4294967296 : Int) = w32 (r >>> (1 : Nat)) := by
  rw [← half32]
  have := w32_lt r
  rw [Int.tdiv_eq_ediv_of_nonneg this.1]
  omega

theorem refsum_any (b off cap : Nat) (sp : Option Addr) (l : List (BitVec 8)) (w : World) (hl : l.length ≤ 2000) (hsp : 0 < l.length → sp = some ⟨b, off, none⟩)
    (hcell : ∀ k, k < l.length → w.cell? ⟨b, off + k, none⟩ = some (.int .u8 (w8 (nthB l k)))) :
    Calls Try.prog 64 #[.slice sp l.length cap] w fun e w' => e = .returned (.int .u32 (w32 (crcB l))) ∧ w = w' := by
  have HC := Lib.hid hcell
  have HS := Lib.hid hsp
  clear hcell hsp
  go_enter Try.func64, Try.ntmps64
  go_wp2
  go_loopg [3, 4] l.length (fun g v i wr => ∃ (k : Nat), k + g = l.length ∧ i = .int .i64 k ∧ v = .int .u32 (w32 (runB ones (l.take k))) ∧ Aside (w = wr))
  case atStart => exact ⟨0, by omega, rfl, rfl, rfl⟩
  case round =>
    obtain ⟨k, hkg, rfl, rfl, hw⟩ := hrel
    obtain rfl := hw.out
    clear hw
    cases gk with
    | zero =>
      obtain rfl : k = l.length := by omega
      rw [List.take_length]
      have hn := not32 (runB ones l)
      go_wp2
      go_ret
      exact ⟨rfl, rfl⟩
    | succ g1 =>
      have hlt : k < l.length := by omega
      obtain rfl := HS.out (by omega)
      have hc := HC.out k hlt
      obtain ⟨r, hr⟩ : ∃ r, runB ones (l.take k) = r := ⟨_, rfl⟩
      have HR := Lib.hid hr
      rw [hr]
      clear hr
      go_wp2
      go_loopg [3, 5] 8 (fun g v i wx => ∃ (j : Nat), j + g = 8 ∧ i = .int .u64 j ∧ v = .int .u32 (w32 (byts r (nthB l k) j)) ∧ Aside (w = wx))
      case atStart => exact ⟨0, by omega, rfl, rfl, rfl⟩
      case round =>
        obtain ⟨j, hjg, rfl, rfl, hw⟩ := hrel
        obtain rfl := hw.out
        clear hw
        cases gk with
        | zero =>
          obtain rfl : j = 8 := by omega
          go_wp2
          go_roundg g1
          case measure => omega
          case rel => exact ⟨k + 1, by omega, by go_num, by rw [runB_snoc _ _ _ hlt, HR.out]; rfl, rfl⟩
        | succ g2 =>
          have ht := kodd_test (byts r (nthB l k) j) (nthB l k) j
          have hx := xor32 (byts r (nthB l k) j >>> 1) poly
          rw [← poly_int] at hx
          have hx := Lib.hid hx
          cases hu : ((byts r (nthB l k) j).getLsbD 0 != (nthB l k).getLsbD j)
          · rw [hu] at ht
            have HU : Aside (((byts r (nthB l k) j).getLsbD 0 != (nthB l k).getLsbD j) = false) := hu
            clear hu
            go_wp2
            go_roundg g2
            case measure => omega
            case rel => exact ⟨j + 1, by omega, by go_num, by show _ = Value.int IntKind.u32 (w32 (stp _ _)); unfold stp; rw [HU.out, half_div]; simp, rfl⟩
          · rw [hu] at ht
            have HU : Aside (((byts r (nthB l k) j).getLsbD 0 != (nthB l k).getLsbD j) = true) := hu
            clear hu
            go_wp2
            go_roundg g2
            case measure => omega
            case rel => exact ⟨j + 1, by omega, by go_num, by show _ = Value.int IntKind.u32 (w32 (stp _ _)); unfold stp; rw [HU.out, half_div, hx.out]; simp, rfl⟩

theorem info5 : (Try.prog.info? 5).map (fun i => (i.zero, i.size, i.bytes)) = some (some (.int .u8 0), 1, 1) := by kernel_rfl
def rowY (l : List (BitVec 8)) : List Value := l.map fun x => .int .u8 (w8 x)
theorem bytesOf_snoc (l : List (BitVec 32)) (k : Nat) (h : k < l.length) : bytesOf (l.take (k + 1)) = bytesOf (l.take k) ++ [part (nthW l k) 0, part (nthW l k) 1, part (nthW l k) 2, part (nthW l k) 3] := by
  rw [List.take_succ_eq_append_getElem h]
  unfold bytesOf
  rw [List.flatMap_append]
  simp [nthW, h]

def rawB (x : Int) : List Value := [.int .u8 (IntKind.u8.wrap (IntKind.u32.wrap (x.tdiv 16777216))), .int .u8 (IntKind.u8.wrap ((IntKind.u32.wrap (x.tdiv 65536)).tmod 256)), .int .u8 (IntKind.u8.wrap ((IntKind.u32.wrap (x.tdiv 256)).tmod 256)), .int .u8 (IntKind.u8.wrap (x.tmod 256))]
theorem raw_one (x : Int) : ∀ u ∈ rawB x, u.oneCell' = true := by intro u hu; simp [rawB] at hu; rcases hu with rfl | rfl | rfl | rfl <;> rfl
theorem raw_parts (x : BitVec 32) : rawB (w32 x) = rowY [part x 0, part x 1, part x 2, part x 3] := by
  have h := w32_lt x
  have p := part_int x
  have p0 : w32 x / 16777216 % 256 = w8 (part x 0) := by simpa using p 0
  have p1 : w32 x / 65536 % 256 = w8 (part x 1) := by simpa using p 1
  have p2 : w32 x / 256 % 256 = w8 (part x 2) := by simpa using p 2
  have p3 : w32 x % 256 = w8 (part x 3) := by simpa using p 3
  have w8r : ∀ n, IntKind.u8.wrap n = n % 256 := IntKind.wrap_u8'
  have w32r : ∀ n, IntKind.u32.wrap n = n % 4294967296 := IntKind.wrap_u32'
  simp only [rawB, rowY, List.map_cons, List.map_nil, ← p0, ← p1, ← p2, ← p3, w8r, w32r]
  obtain ⟨X, hX⟩ : ∃ X, w32 x = X := ⟨_, rfl⟩
  rw [hX] at h ⊢
  have t : ∀ d : Int, X.tdiv d = X / d := fun d => Int.tdiv_eq_ediv_of_nonneg h.1
  have e1 : (X / 65536 % 4294967296).tmod 256 = X / 65536 % 4294967296 % 256 := Int.tmod_eq_emod_of_nonneg (by omega)
  have e2 : (X / 256 % 4294967296).tmod 256 = X / 256 % 4294967296 % 256 := Int.tmod_eq_emod_of_nonneg (by omega)
  have e3 : X.tmod 256 = X % 256 := Int.tmod_eq_emod_of_nonneg h.1
  rw [t, t, t, e1, e2, e3]
  have q0 : X / 16777216 % 4294967296 % 256 = X / 16777216 % 256 := by omega
  have q1 : X / 65536 % 4294967296 % 256 % 256 = X / 65536 % 256 := by omega
  have q2 : X / 256 % 4294967296 % 256 % 256 = X / 256 % 256 := by omega
  have q3 : X % 256 % 256 = X % 256 := by omega
  rw [q0, q1, q2, q3]

theorem refbytes_any (b off cap : Nat) (sp : Option Addr) (l : List (BitVec 32)) (w : World) (hl : l.length ≤ 500) (hsp : 0 < l.length → sp = some ⟨b, off, none⟩ ∧ b < w.heap.size)
    (hcell : ∀ k, k < l.length → w.cell? ⟨b, off + k, none⟩ = some (.int .u32 (w32 (nthW l k)))) :
    Calls Try.prog 65 #[.slice sp l.length cap] w fun e w' => ∃ v, e = .returned v ∧ w'.ownsRow w.heap.size 5 1 v (4 * l.length) (rowY (bytesOf l)) ∧ Below w.heap.size w w' := by
  obtain ⟨i0, hi, hz0, hz1, hz2⟩ := info_parts info5
  have HC := Lib.hid hcell
  have HS := Lib.hid hsp
  clear hcell hsp
  go_enter Try.func65, Try.ntmps65
  go_wp2
  go_loopg [3, 4] l.length (fun g v i wr => ∃ (k : Nat), k + g = l.length ∧ i = .int .i64 k ∧ wr.ownsRow w.heap.size 5 1 v (4 * k) (rowY (bytesOf (l.take k))) ∧ Below w.heap.size w wr)
  case atStart => exact ⟨0, by omega, rfl, World.ownsRow_nil _ _ _ _, Below.refl _ _⟩
  case round =>
    obtain ⟨k, hkg, rfl, hown, hB⟩ := hrel
    cases gk with
    | zero =>
      obtain rfl : k = l.length := by omega
      rw [List.take_length] at hown
      have HO := Lib.hid hown
      have HB := Lib.hid hB
      clear hown hB
      go_wp2
      go_ret
      exact ⟨_, rfl, HO.out, HB.out⟩
    | succ g1 =>
      have hlt : k < l.length := by omega
      have hk1 : (k : Int) < (l.length : Int) := by omega
      obtain ⟨rfl, hbl⟩ := HS.out (by omega)
      have hc : wr.cell? ⟨b, off + k, none⟩ = some (.int .u32 (w32 (nthW l k))) := by rw [hB.cell (p := ⟨b, off + k, none⟩) hbl]; exact HC.out k hlt
      have HCk := Lib.hid (HC.out k hlt)
      have H63 := Lib.hid (show 4 * k + 4 ≤ maxLen ∧ (4 * k + 4) * 1 ≤ 140737488355328 by unfold maxLen; omega)
      have HN := Lib.hid (fun o => World.ownsRow.alloc (w := wr.drew) hown o)
      have HL := Lib.hid (show w.heap.size ≤ (wr.drew.alloc (.cells (rawB (w32 (nthW l k))).toArray 5)).heap.size by rw [World.size_alloc]; exact Nat.le_succ_of_le hB.size)
      have HK := Lib.hid (show ∀ j u, (rawB (w32 (nthW l k)))[j]? = some u → (wr.drew.alloc (.cells (rawB (w32 (nthW l k))).toArray 5)).cell? ((⟨wr.heap.size, 0, none⟩ : Addr).add j) = some u from World.news_of_block (World.alloc_heap_new wr.drew (.cells (rawB (w32 (nthW l k))).toArray 5)))
      have HG := Lib.hid (fun (w1 : World) (hg : World.grownBy (wr.drew.alloc (.cells (rawB (w32 (nthW l k))).toArray 5)) w1 u3.ownBlock) =>
        Below.grown (Below.alloc (B := w.heap.size) (a := w) (w := wr.drew) ⟨hB.os, hB.tape, hB.output, hB.size, hB.block⟩ hB.size _) hg HL.out (fun j e => (hown.lt j e).1))
      clear hown hB
      go_wp2
      go_region_held3 (fun w' => w'.cell? ⟨b, off + k, none⟩ = some (.int .u32 (w32 (nthW l k)))) (first | exact hcn | go_keep)
        (first
          | (refine step_append_lies _ rfl (.tmp 11) (.tmp 38) 123 rfl w.heap.size 5 i0 (.int .u8 0) 1 1 Try.underlying123 hi hz0 hz1 hz2 rfl Nat.one_pos _ (4 * k) (rowY (bytesOf (l.take k))) rfl (HN.out _) ⟨wr.heap.size, 0, none⟩ 4 4 (rawB (w32 (nthW l k))) rfl rfl HK.out (raw_one _) (Nat.succ_pos 3) H63.out.1 H63.out.2 HL.out _ rfl ?_; intro g cap w1 hown1 hgrow hat hlt1; have hBn : Below w.heap.size w w1 := HG.out _ hgrow; have hcn : w1.cell? ⟨b, off + k, none⟩ = some (.int .u32 (w32 (nthW l k))) := (hBn.cell (p := ⟨b, off + k, none⟩) hbl).trans HCk.out))
      have HO := Lib.hid hown1
      clear hown1 hgrow hat hcn
      go_wp2
      go_roundg g1
      case measure => omega
      case rel =>
        refine ⟨k + 1, by omega, by go_num, ?_, hBn⟩
        have h := HO.out
        rw [raw_parts] at h
        rw [bytesOf_snoc l k hlt]
        unfold rowY at h ⊢
        rw [List.map_append]
        exact h

end Go.Proofs.Ythpagbfabpfngaa
