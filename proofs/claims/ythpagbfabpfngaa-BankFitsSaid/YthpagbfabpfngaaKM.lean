/- The sum bit by bit as a plain function on words of 32 bits: that it adds (exclusive or) and that it loses nothing. No statement about the program. -/
import Derived.WalkKit
namespace Go.Proofs.Ythpagbfabpfngaa

def poly : BitVec 32 := 0xedb88320#32
/-- One bit comes. -/
def stp (r : BitVec 32) (b : Bool) : BitVec 32 := (r >>> 1) ^^^ (if (r.getLsbD 0 != b) then poly else 0#32)
/-- The first i bits of a byte come. -/
def byts (r : BitVec 32) (b : BitVec 8) : Nat → BitVec 32
  | 0 => r
  | i + 1 => stp (byts r b i) (b.getLsbD i)
def byt (r : BitVec 32) (b : BitVec 8) : BitVec 32 := byts r b 8
/-- Byte i of a word, the highest first. -/
def part (w : BitVec 32) (i : Nat) : BitVec 8 := (w >>> (24 - 8 * i)).setWidth 8
def wrds (r : BitVec 32) (w : BitVec 32) : Nat → BitVec 32
  | 0 => r
  | i + 1 => byt (wrds r w i) (part w i)
def wrd (r : BitVec 32) (w : BitVec 32) : BitVec 32 := wrds r w 4

theorem stp_add (r s : BitVec 32) (b c : Bool) : stp (r ^^^ s) (b ^^ c) = stp r b ^^^ stp s c := by
  have e : (r ^^^ s) >>> 1 = (r >>> 1) ^^^ (s >>> 1) := by
    apply BitVec.eq_of_getLsbD_eq; intro i _; simp
  unfold stp
  rw [e]
  simp only [BitVec.getLsbD_xor]
  have ac : ∀ x y p q : BitVec 32, (x ^^^ y) ^^^ (p ^^^ q) = (x ^^^ p) ^^^ (y ^^^ q) := by
    intro x y p q
    apply BitVec.eq_of_getLsbD_eq; intro i _
    simp only [BitVec.getLsbD_xor]
    cases x.getLsbD i <;> cases y.getLsbD i <;> cases p.getLsbD i <;> cases q.getLsbD i <;> rfl
  rw [← ac]
  congr 1
  cases r.getLsbD 0 <;> cases s.getLsbD 0 <;> cases b <;> cases c <;> simp [poly]
theorem byts_add (r s : BitVec 32) (b c : BitVec 8) : ∀ i, byts (r ^^^ s) (b ^^^ c) i = byts r b i ^^^ byts s c i
  | 0 => rfl
  | i + 1 => by
    simp only [byts, byts_add r s b c i, BitVec.getLsbD_xor]
    exact stp_add _ _ _ _
theorem byt_add (r s : BitVec 32) (b c : BitVec 8) : byt (r ^^^ s) (b ^^^ c) = byt r b ^^^ byt s c := byts_add r s b c 8
theorem part_add (u v : BitVec 32) (i : Nat) : part (u ^^^ v) i = part u i ^^^ part v i := by
  apply BitVec.eq_of_getLsbD_eq; intro j hj
  simp [part, hj]
theorem wrds_add (r s u v : BitVec 32) : ∀ i, wrds (r ^^^ s) (u ^^^ v) i = wrds r u i ^^^ wrds s v i
  | 0 => rfl
  | i + 1 => by
    simp only [wrds, wrds_add r s u v i, part_add]
    exact byt_add _ _ _ _
theorem wrd_add (r s u v : BitVec 32) : wrd (r ^^^ s) (u ^^^ v) = wrd r u ^^^ wrd s v := wrds_add r s u v 4

theorem stp_zero {r : BitVec 32} (h : stp r false = 0#32) : r = 0#32 := by
  unfold stp at h
  have h0 : r.getLsbD 0 = false := by
    cases hb : r.getLsbD 0
    · rfl
    · rw [hb] at h
      have := congrArg (·.getLsbD 31) h
      simp [poly] at this
  rw [h0] at h
  simp at h
  apply BitVec.eq_of_getLsbD_eq
  intro i hi
  cases i with
  | zero => simpa using h0
  | succ i =>
    have := congrArg (·.getLsbD i) h
    simp at this
    rw [Nat.add_comm] at this
    simpa using this
theorem byts_zero {r : BitVec 32} : ∀ i, byts r 0#8 i = 0#32 → r = 0#32
  | 0, h => h
  | i + 1, h => byts_zero i (stp_zero (by simpa [byts] using h))
theorem kpart_zero (i : Nat) : part 0#32 i = 0#8 := by simp [part]
theorem wrds_zero {r : BitVec 32} : ∀ i, wrds r 0#32 i = 0#32 → r = 0#32
  | 0, h => h
  | i + 1, h => wrds_zero i (by
    have h' : byt (wrds r 0#32 i) 0#8 = 0#32 := by simpa [wrds, kpart_zero] using h
    exact byts_zero 8 h')
theorem wrd_inj {r s : BitVec 32} (w : BitVec 32) (h : wrd r w = wrd s w) : r = s := by
  have e := wrd_add r s w w
  rw [h] at e
  simp only [BitVec.xor_self] at e
  have := wrds_zero 4 e
  have h2 := congrArg (· ^^^ s) this
  simpa [BitVec.xor_assoc] using h2
theorem wrd_bit (k : Nat) (hk : k < 32) : wrd 0#32 (1#32 <<< k) ≠ 0#32 := by
  have : ∀ k : Fin 32, wrd 0#32 (1#32 <<< k.val) ≠ 0#32 := by decide +kernel
  exact this ⟨k, hk⟩

/-- All bits set. -/
def ones : BitVec 32 := 4294967295#32
/-- The sum of words. -/
def runW (r : BitVec 32) (l : List (BitVec 32)) : BitVec 32 := l.foldl wrd r
def crcW (l : List (BitVec 32)) : BitVec 32 := ~~~ runW (ones) l
def runB (r : BitVec 32) (l : List (BitVec 8)) : BitVec 32 := l.foldl byt r
def crcB (l : List (BitVec 8)) : BitVec 32 := ~~~ runB (ones) l

theorem runW_inj (l : List (BitVec 32)) {r s : BitVec 32} (h : runW r l = runW s l) : r = s := by
  induction l generalizing r s with
  | nil => exact h
  | cons w l ih => exact wrd_inj w (ih h)
theorem not_inj {a b : BitVec 32} (h : ~~~a = ~~~b) : a = b := by
  have := congrArg (~~~ ·) h; simpa using this
theorem crcW_bit (l1 l2 : List (BitVec 32)) (w : BitVec 32) (k : Nat) (hk : k < 32) : crcW (l1 ++ (w ^^^ 1#32 <<< k) :: l2) ≠ crcW (l1 ++ w :: l2) := by
  intro h
  have h1 := not_inj h
  simp only [runW, List.foldl_append, List.foldl_cons] at h1
  have h2 := runW_inj l2 h1
  have e := wrd_add (l1.foldl wrd (ones)) 0#32 w (1#32 <<< k)
  simp only [BitVec.xor_zero] at e
  rw [e] at h2
  have h3 := congrArg (wrd (l1.foldl wrd (ones)) w ^^^ ·) h2
  simp only [← BitVec.xor_assoc, BitVec.xor_self, BitVec.zero_xor] at h3
  exact wrd_bit k hk h3
theorem runW_add : ∀ (a b c : List (BitVec 32)) (r s t : BitVec 32), a.length = b.length → a.length = c.length →
    runW (r ^^^ s ^^^ t) (List.zipWith (· ^^^ ·) (List.zipWith (· ^^^ ·) a b) c) = runW r a ^^^ runW s b ^^^ runW t c
  | [], [], [], _, _, _, _, _ => rfl
  | x :: a, y :: b, z :: c, r, s, t, h1, h2 => by
    simp only [List.zipWith_cons_cons, runW, List.foldl_cons, wrd_add]
    exact runW_add a b c _ _ _ (by simpa using h1) (by simpa using h2)
  | [], _ :: _, _, _, _, _, h, _ => by simp at h
  | [], [], _ :: _, _, _, _, _, h => by simp at h
  | _ :: _, [], _, _, _, _, h, _ => by simp at h
  | _ :: _, _ :: _, [], _, _, _, _, h => by simp at h
theorem crcW_add (a b c : List (BitVec 32)) (h1 : a.length = b.length) (h2 : a.length = c.length) :
    crcW (List.zipWith (· ^^^ ·) (List.zipWith (· ^^^ ·) a b) c) = crcW a ^^^ crcW b ^^^ crcW c := by
  have h := runW_add a b c (ones) (ones) (ones) h1 h2
  simp only [BitVec.xor_self, BitVec.zero_xor] at h
  unfold crcW
  rw [h]
  apply BitVec.eq_of_getLsbD_eq; intro i hi
  simp [hi]

/-- The bytes of words, the highest of each one first. -/
def bytesOf (l : List (BitVec 32)) : List (BitVec 8) := l.flatMap fun w => [part w 0, part w 1, part w 2, part w 3]
theorem runB_bytes (l : List (BitVec 32)) (r : BitVec 32) : runB r (bytesOf l) = runW r l := by
  induction l generalizing r with
  | nil => rfl
  | cons w l ih =>
    have : bytesOf (w :: l) = part w 0 :: part w 1 :: part w 2 :: part w 3 :: bytesOf l := rfl
    rw [this]
    exact ih _
theorem crcB_bytes (l : List (BitVec 32)) : crcB (bytesOf l) = crcW l := by unfold crcB crcW; rw [runB_bytes]
theorem crcB_alive : crcB [0x31#8, 0x32#8, 0x33#8, 0x34#8, 0x35#8, 0x36#8, 0x37#8, 0x38#8, 0x39#8] = 0xcbf43926#32 := by decide +kernel

end Go.Proofs.Ythpagbfabpfngaa
