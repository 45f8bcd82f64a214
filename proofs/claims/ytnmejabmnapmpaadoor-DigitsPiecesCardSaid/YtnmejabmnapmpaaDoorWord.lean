/- The contracts of digits.Word, digits.ReadWord and their references: each returns what plain functions on lists of bytes say. -/
import Derived.Test.YtnmejabmnapmpaaDoorNum
namespace Go.Proofs.YtnmejabmnapmpaaDoor
open Go.RowKit Go.Lib

/-- The figure of a value. -/
def sgb (d : Nat) : UInt8 := UInt8.ofNat (if d < 10 then 48 + d else 87 + d)
theorem sig_get (q : Nat) (h : q < 16) : ((⟨#[48, 49, 50, 51, 52, 53, 54, 55, 56, 57, 97, 98, 99, 100, 101, 102]⟩ : ByteArray)[q]'h) = sgb q := by
  have : ∀ q : Fin 16, ((⟨#[48, 49, 50, 51, 52, 53, 54, 55, 56, 57, 97, 98, 99, 100, 101, 102]⟩ : ByteArray)[q.1]'q.2) = sgb q.1 := by decide
  exact this ⟨q, h⟩
/-- The i-th figure's value, of eight. -/
def nib (x i : Nat) : Nat := x / 16 ^ (7 - i) % 16
theorem nib_lt (x i : Nat) : nib x i < 16 := Nat.mod_lt _ (by omega)
def wordT (x : Nat) : List UInt8 := [sgb (nib x 0), sgb (nib x 1), sgb (nib x 2), sgb (nib x 3), sgb (nib x 4), sgb (nib x 5), sgb (nib x 6), sgb (nib x 7)]

theorem and15 (y : Nat) (h : y < 4294967296) : bits BinOp.and IntKind.u32 (y : Int) 15 = ((y % 16 : Nat) : Int) := by
  have h1 : (BitVec.ofInt 32 (y : Int)).toNat = y := by
    rw [BitVec.ofInt_natCast, BitVec.toNat_ofNat]; exact Nat.mod_eq_of_lt (by omega)
  have h2 : (BitVec.ofInt 32 (15 : Int)).toNat = 15 := by decide
  show IntKind.u32.wrap ((BitVec.ofInt 32 (y : Int) &&& BitVec.ofInt 32 (15 : Int)).toNat : Int) = _
  rw [BitVec.toNat_and, h1, h2, IntKind.wrap_u32, show y &&& 15 = y % 16 from Nat.and_two_pow_sub_one_eq_mod y 4]
  omega
theorem bytes8 (c0 c1 c2 c3 c4 c5 c6 c7 : UInt8) (W : World) :
    (convert 44 9 (.slice (some ⟨W.heap.size, 0, none⟩) 8 8)).run Tryd.prog (W.alloc (.cells #[.int .u8 c0.toNat, .int .u8 c1.toNat, .int .u8 c2.toNat, .int .u8 c3.toNat, .int .u8 c4.toNat, .int .u8 c5.toNat, .int .u8 c6.toNat, .int .u8 c7.toNat] 45)) =
      .ok (.string ⟨#[c0, c1, c2, c3, c4, c5, c6, c7]⟩) (W.alloc (.cells #[.int .u8 c0.toNat, .int .u8 c1.toNat, .int .u8 c2.toNat, .int .u8 c3.toNat, .int .u8 c4.toNat, .int .u8 c5.toNat, .int .u8 c6.toNat, .int .u8 c7.toNat] 45)) := by
  rw [run_convert_bytes_arg _ 44 5 Tryd.underlying44 Tryd.underlying5 W.heap.size 0 8 8 ([c0, c1, c2, c3, c4, c5, c6, c7].map fun c => (c.toNat : Int)) rfl (by
    intro i hi
    unfold World.cell?
    rw [show (⟨W.heap.size, 0 + i, none⟩ : Addr).block = W.heap.size from rfl, World.alloc_heap_new]
    rcases i with _ | _ | _ | _ | _ | _ | _ | _ | i <;> first | rfl | omega) 9 Tryd.underlying9]
  simp [strOfNums]

theorem word_any (x : Nat) (w : World) (hx : x < 4294967296) : Calls Tryd.prog 11 #[.int .u32 x] w fun e w' => e = .returned (.string ⟨(wordT x).toArray⟩) ∧ Below w.heap.size w w' := by
  have g0 := nib_lt x 0; have g1 := nib_lt x 1; have g2 := nib_lt x 2; have g3 := nib_lt x 3
  have g4 := nib_lt x 4; have g5 := nib_lt x 5; have g6 := nib_lt x 6; have g7 := nib_lt x 7
  have b0 : bits BinOp.and IntKind.u32 ((x : Int) / 268435456) 15 = ((nib x 0 : Nat) : Int) := and15 (x / 268435456) (by omega)
  have b1 : bits BinOp.and IntKind.u32 ((x : Int) / 16777216) 15 = ((nib x 1 : Nat) : Int) := and15 (x / 16777216) (by omega)
  have b2 : bits BinOp.and IntKind.u32 ((x : Int) / 1048576) 15 = ((nib x 2 : Nat) : Int) := and15 (x / 1048576) (by omega)
  have b3 : bits BinOp.and IntKind.u32 ((x : Int) / 65536) 15 = ((nib x 3 : Nat) : Int) := and15 (x / 65536) (by omega)
  have b4 : bits BinOp.and IntKind.u32 ((x : Int) / 4096) 15 = ((nib x 4 : Nat) : Int) := and15 (x / 4096) (by omega)
  have b5 : bits BinOp.and IntKind.u32 ((x : Int) / 256) 15 = ((nib x 5 : Nat) : Int) := and15 (x / 256) (by omega)
  have b6 : bits BinOp.and IntKind.u32 ((x : Int) / 16) 15 = ((nib x 6 : Nat) : Int) := and15 (x / 16) (by omega)
  have b7 : bits BinOp.and IntKind.u32 (x : Int) 15 = ((nib x 7 : Nat) : Int) := by
    have := and15 x hx
    rw [this]; unfold nib; simp
  have i0 : ((nib x 0 : Nat) : Int) < 16 := by omega
  have i1 : ((nib x 1 : Nat) : Int) < 16 := by omega
  have i2 : ((nib x 2 : Nat) : Int) < 16 := by omega
  have i3 : ((nib x 3 : Nat) : Int) < 16 := by omega
  have i4 : ((nib x 4 : Nat) : Int) < 16 := by omega
  have i5 : ((nib x 5 : Nat) : Int) < 16 := by omega
  have i6 : ((nib x 6 : Nat) : Int) < 16 := by omega
  have i7 : ((nib x 7 : Nat) : Int) < 16 := by omega
  have hsg := sig_get
  have hcv := bytes8
  go_enter Tryd.func11, Tryd.ntmps11
  go_wp2
  refine wp_loop_rounds 9 ?_
  rw [rounds_succ]
  go_wp2
  rw [rounds_succ]
  go_wp2
  rw [rounds_succ]
  go_wp2
  rw [rounds_succ]
  go_wp2
  rw [rounds_succ]
  go_wp2
  rw [rounds_succ]
  go_wp2
  rw [rounds_succ]
  go_wp2
  rw [rounds_succ]
  go_wp2
  rw [rounds_succ]
  go_wp2
  go_ret
  exact ⟨rfl, (Below.refl _ _).alloc (Nat.le_refl _) _⟩


/-- The last k figures of a word. -/
def hx (x : Nat) : Nat → List UInt8
  | 0 => []
  | k + 1 => sgb (x / 16 ^ k % 16) :: hx x k
theorem hx_len (x k : Nat) : (hx x k).length = k := by induction k <;> simp_all [hx]
theorem word_hx (x : Nat) : wordT x = hx x 8 := rfl

theorem refword_any (x : Nat) (w : World) (hx0 : x < 4294967296) : Calls Tryd.prog 14 #[.int .u32 x] w fun e w' => e = .returned (.string ⟨(wordT x).toArray⟩) ∧ Below w.heap.size w w' := by
  have hsg := sig_get
  have hcv := conv_one
  go_enter Tryd.func14, Tryd.ntmps14
  go_wp2
  go_loopg [0, 3, 4] 8 (fun g n s i wr => ∃ (k y : Nat), k + g = 8 ∧ i = .int .i64 k ∧ n = .int .u32 y ∧ Aside (y = x / 16 ^ k) ∧ s = .string ⟨(hx x k).toArray⟩ ∧ y < 4294967296 ∧ Aside (Below w.heap.size w wr))
  case atStart => exact ⟨0, x, by omega, rfl, rfl, by show x = x / 16 ^ 0; simp, rfl, hx0, Below.refl _ _⟩
  case round =>
    obtain ⟨k, y, hkg, rfl, rfl, HY, rfl, hy, HB⟩ := hrel
    cases gk with
    | zero =>
      obtain rfl : k = 8 := by omega
      go_wp2
      go_ret
      exact ⟨rfl, HB.out⟩
    | succ g1 =>
      have hk8 : (k : Int) < 8 := by omega
      have hi : ((y : Int) % 16) < 16 := by omega
      have hl := hx_len x k
      have hll : (hx x k).length ≤ 8 := by omega
      clear hl
      go_wp2
      go_roundg g1
      case measure => omega
      case rel =>
        refine ⟨k + 1, y / 16, by omega, by go_num, by go_num, ?_, ?_, by omega, HB.out.alloc HB.out.size _⟩
        · show y / 16 = x / 16 ^ (k + 1)
          rw [HY.out, Nat.div_div_eq_div_mul, Nat.pow_succ]
        · simp [app_bytes, hx, HY.out]


theorem dv_sgb (d : Nat) (h : d < 16) : dv (sgb d) = d := by
  have : ∀ d : Fin 16, dv (sgb d.1) = d.1 := by decide
  exact this ⟨d, h⟩
theorem fig_hx (x k : Nat) (hk : k ≤ 8) (v : Nat) (hv : v * 16 ^ k + x % 16 ^ k < 4294967296) : figN 16 v (hx x k) = some ((v * 16 ^ k + x % 16 ^ k : Nat) : Int) := by
  induction k generalizing v with
  | zero => simp [hx, figN, Nat.mod_one]
  | succ k ih =>
    have hd : x / 16 ^ k % 16 < 16 := Nat.mod_lt _ (by omega)
    have hm : x % 16 ^ (k + 1) = 16 ^ k * (x / 16 ^ k % 16) + x % 16 ^ k := by
      rw [Nat.pow_succ, Nat.mod_mul]; omega
    have e : v * 16 ^ (k + 1) + x % 16 ^ (k + 1) = (v * 16 + x / 16 ^ k % 16) * 16 ^ k + x % 16 ^ k := by
      rw [hm, Nat.pow_succ, Nat.add_mul, Nat.mul_assoc v 16, Nat.mul_comm 16 (16 ^ k), Nat.mul_comm (16 ^ k) (x / 16 ^ k % 16)]; omega
    have hp : 1 ≤ 16 ^ k := Nat.one_le_pow _ _ (by omega)
    have hb : v * 16 + x / 16 ^ k % 16 < 4294967296 := by
      have h1 : (v * 16 + x / 16 ^ k % 16) * 1 ≤ (v * 16 + x / 16 ^ k % 16) * 16 ^ k := Nat.mul_le_mul_left _ hp
      omega
    rw [hx, figN, dv_sgb _ hd, if_pos hd]
    have e1 : wrap64 ((v : Int) * ((16 : Nat) : Int)) = (v : Int) * 16 := IntWalk.wrap64_in _ ⟨by omega, by omega⟩
    have e2 : wrap64 ((v : Int) * 16 + ((x / 16 ^ k % 16 : Nat) : Int)) = ((v * 16 + x / 16 ^ k % 16 : Nat) : Int) := by
      rw [IntWalk.wrap64_in _ ⟨by omega, by omega⟩]; push_cast; rfl
    rw [e1, e2, ih (by omega) _ (by rw [← e]; exact hv), e]
theorem fig_word (x : Nat) (h : x < 4294967296) : figN 16 0 (wordT x) = some (x : Int) := by
  have := fig_hx x 8 (by omega) 0 (by omega)
  rw [word_hx]
  rw [show ((0 : Nat) : Int) = 0 from rfl] at this
  rw [this]; congr 1; omega

/-- The word of which a list of bytes is the text. -/
def rdw (l : List UInt8) : Option Nat := match figN 16 0 l with
  | some v => if 0 ≤ v ∧ v < 4294967296 ∧ wordT v.toNat = l then some v.toNat else none
  | none => none
theorem rdw_word {x : Nat} (h : x < 4294967296) : rdw (wordT x) = some x := by
  unfold rdw; rw [fig_word x h]; simp; omega
theorem rdw_none {l : List UInt8} (h : ∀ x, x < 4294967296 → wordT x ≠ l) : rdw l = none := by
  unfold rdw
  split
  · rename_i v _
    rw [if_neg]; rintro ⟨h1, h2, h3⟩; exact h v.toNat (by omega) h3
  · rfl
def rdwEnd (l : List UInt8) : Ending := .returned (.tuple #[.int .u32 ((rdw l).getD 0 : Nat), .int .i64 (if (rdw l).isSome then 0 else 11)])

theorem readword_any (s : ByteArray) (w : World) (hs : s.size ≤ 9223372036854775807) : Calls Tryd.prog 12 #[.string s] w fun e w' => e = rdwEnd s.data.toList ∧ Below w.heap.size w w' := by
  have hf := figures_any s 16 (Or.inr rfl) w hs
  unfold figEnd at hf
  unfold rdwEnd
  cases hv : figN 16 0 s.data.toList with
  | none =>
    have hr : rdw s.data.toList = none := by unfold rdw; rw [hv]
    rw [hv] at hf
    rw [hr]
    clear hv hr
    go_enter Tryd.func12, Tryd.ntmps12
    go_wp2_with (go_at_call 22; refine hf.mono ?_; rintro e w' ⟨rfl, hd⟩)
    go_ret2
    exact ⟨rfl, hd.below⟩
  | some v =>
    rw [hv] at hf
    obtain ⟨u, hu⟩ : ∃ u : Nat, v % 4294967296 = (u : Int) := ⟨(v % 4294967296).toNat, by omega⟩
    have hu4 : u < 4294967296 := by omega
    have HT := fun w' => Lib.hid (word_any u w' hu4)
    by_cases he : wordT u = s.data.toList
    · have hcv : v = (u : Int) := by
        have := fig_word u hu4
        rw [he, hv] at this
        exact Option.some.inj this
      have hr : rdw s.data.toList = some u := by rw [← he]; exact rdw_word hu4
      have heq : (wordT u == s.toList) = true := by rw [ByteArray.toList_eq, he]; simp
      rw [hr]
      clear hv hr he hcv
      go_enter Tryd.func12, Tryd.ntmps12
      go_wp2_with (first | (go_at_call 22; refine hf.mono ?_; rintro e w' ⟨rfl, hd⟩) | (go_at_call 11; refine (HT _).out.mono ?_; rintro e w'' ⟨rfl, hb⟩))
      go_ret2
      exact ⟨rfl, hd.below.trans (by obtain ⟨n, rfl⟩ := hd; exact hb)⟩
    · have hr : rdw s.data.toList = none := by
        unfold rdw; rw [hv]
        simp only
        rw [if_neg]
        rintro ⟨h1, h2, h3⟩
        exact he (by rw [← h3]; congr 1; omega)
      have hne := bytes_ne he
      rw [hr]
      clear hv hr he
      go_enter Tryd.func12, Tryd.ntmps12
      go_wp2_with (first | (go_at_call 22; refine hf.mono ?_; rintro e w' ⟨rfl, hd⟩) | (go_at_call 11; refine (HT _).out.mono ?_; rintro e w'' ⟨rfl, hb⟩))
      go_ret2
      exact ⟨rfl, hd.below.trans (by obtain ⟨n, rfl⟩ := hd; exact hb)⟩

/-- The reference's word of a text. -/
def rfw (n : Nat) : List UInt8 → Nat
  | [] => n
  | c :: r => rfw (if dv c < 16 then (16 * n + dv c) % 4294967296 else n) r
theorem rfw_snoc (n : Nat) (l : List UInt8) (c : UInt8) : rfw n (l ++ [c]) = if dv c < 16 then (16 * rfw n l + dv c) % 4294967296 else rfw n l := by
  induction l generalizing n with
  | nil => rfl
  | cons d l ih => simp only [List.cons_append, rfw]; exact ih _
theorem rfw_lt (n : Nat) (l : List UInt8) (h : n < 4294967296) : rfw n l < 4294967296 := by
  induction l generalizing n with
  | nil => exact h
  | cons c l ih => exact ih _ (by split <;> omega)
theorem rfw_hx (x k : Nat) (v : Nat) (hv : v * 16 ^ k + x % 16 ^ k < 4294967296) : rfw v (hx x k) = v * 16 ^ k + x % 16 ^ k := by
  induction k generalizing v with
  | zero => simp [hx, rfw, Nat.mod_one]
  | succ k ih =>
    have hd : x / 16 ^ k % 16 < 16 := Nat.mod_lt _ (by omega)
    have hm : x % 16 ^ (k + 1) = 16 ^ k * (x / 16 ^ k % 16) + x % 16 ^ k := by
      rw [Nat.pow_succ, Nat.mod_mul]; omega
    have e : v * 16 ^ (k + 1) + x % 16 ^ (k + 1) = (v * 16 + x / 16 ^ k % 16) * 16 ^ k + x % 16 ^ k := by
      rw [hm, Nat.pow_succ, Nat.add_mul, Nat.mul_assoc v 16, Nat.mul_comm 16 (16 ^ k), Nat.mul_comm (16 ^ k) (x / 16 ^ k % 16)]; omega
    have hp : 1 ≤ 16 ^ k := Nat.one_le_pow _ _ (by omega)
    have hb : v * 16 + x / 16 ^ k % 16 < 4294967296 := by
      have h1 : (v * 16 + x / 16 ^ k % 16) * 1 ≤ (v * 16 + x / 16 ^ k % 16) * 16 ^ k := Nat.mul_le_mul_left _ hp
      omega
    rw [hx, rfw, dv_sgb _ hd, if_pos hd, show (16 * v + x / 16 ^ k % 16) % 4294967296 = v * 16 + x / 16 ^ k % 16 by omega, ih _ (by rw [← e]; exact hv), e]
theorem rfw_word (x : Nat) (h : x < 4294967296) : rfw 0 (wordT x) = x := by
  have := rfw_hx x 8 0 (by omega)
  rw [word_hx, this]; omega

theorem refreadword_any (s : ByteArray) (w : World) (hs : s.size ≤ 9223372036854775807) : Calls Tryd.prog 13 #[.string s] w fun e w' => e = rdwEnd s.data.toList ∧ Below w.heap.size w w' := by
  go_enter Tryd.func13, Tryd.ntmps13
  go_wp2
  go_loopg [4, 5] 8 (fun g n i wr => ∃ (k y : Nat), k + g = 8 ∧ k ≤ s.size ∧ i = .int .i64 k ∧ n = .int .u32 y ∧ y < 4294967296 ∧ Aside (y = rfw 0 (s.data.toList.take k)) ∧ Aside (Drewn w wr))
  case atStart => exact ⟨0, 0, by omega, by omega, rfl, rfl, by omega, rfl, Drewn.refl _⟩
  case round =>
    obtain ⟨k, y, hkg, hks, rfl, rfl, hy, HY, HD⟩ := hrel
    by_cases hlt : k < s.size ∧ k < 8
    · obtain ⟨hlt, h8⟩ := hlt
      have hk1 : (k : Int) < (s.size : Int) := by omega
      have hk8 : (k : Int) < 8 := by omega
      obtain ⟨g1, rfl⟩ : ∃ g1, gk = g1 + 1 := ⟨gk - 1, by omega⟩
      go_wp2
      go_loopg [4, 6] 16 (fun g n v wx => ∃ (q z : Nat), q + g = 16 ∧ v = .int .i64 q ∧ n = .int .u32 z ∧ z < 4294967296 ∧ Aside (z = if dv s[k] < q then (16 * y + dv s[k]) % 4294967296 else y) ∧ Aside (Drewn w wx))
      case atStart => exact ⟨0, y, by omega, rfl, rfl, hy, by show y = _; simp, HD.out⟩
      case round =>
        obtain ⟨q, z, hqg, rfl, rfl, hz, HZ, hdx⟩ := hrel
        cases gk with
        | zero =>
          obtain rfl : q = 16 := by omega
          go_wp2
          go_roundg g1
          case measure => omega
          case rel => exact ⟨k + 1, z, by omega, by omega, by go_num, rfl, hz, by show z = _; rw [take_snoc s k hlt, rfw_snoc, ← HY.out]; exact HZ.out, hdx.out⟩
        | succ g2 =>
          have hq16 : q < 16 := by omega
          have hq1 : (q : Int) < (16 : Int) := by omega
          have hse := sig_eq s[k] q hq16
          rw [Bool.beq_comm] at hse
          by_cases hq : dv s[k] = q
          · rw [decide_eq_true hq] at hse
            have HQ : Aside (dv s[k] = q) := hq
            clear hq
            go_wp2
            go_quiet (fail)
            go_wp2
            go_roundg g2
            case measure => omega
            case rel =>
              have h1 : z = y := by have := HZ.out; rwa [if_neg (by have := HQ.out; omega)] at this
              refine ⟨q + 1, (16 * y + q) % 4294967296, by omega, by go_num, by subst h1; go_num, by omega, ?_, hdx.out.trans ⟨_, rfl⟩⟩
              show (16 * y + q) % 4294967296 = _
              rw [HQ.out, if_pos (by omega)]
          · rw [decide_eq_false hq] at hse
            have HQ : Aside (dv s[k] ≠ q) := hq
            clear hq
            go_wp2
            go_quiet (fail)
            go_wp2
            go_roundg g2
            case measure => omega
            case rel =>
              refine ⟨q + 1, z, by omega, by go_num, rfl, hz, ?_, hdx.out.trans ⟨_, rfl⟩⟩
              show z = _
              rw [HZ.out]
              by_cases h : dv s[k] < q
              · rw [if_pos h, if_pos (by omega)]
              · rw [if_neg h, if_neg (by have := HQ.out; omega)]
    · have hn0 : y = rfw 0 (s.data.toList.take 8) := by
        rw [HY.out]
        by_cases h : k = 8
        · rw [h]
        · have e : k = s.size := by omega
          have hl : s.data.toList.length = s.size := by simp
          rw [List.take_of_length_le (by omega), List.take_of_length_le (by omega)]
      have hd : ∀ x, x < 4294967296 → wordT x = s.data.toList → y = x := by
        intro x hx4 e
        rw [hn0, ← e, List.take_of_length_le (by rw [word_hx, hx_len]; omega), rfw_word x hx4]
      have HT := fun w' => Lib.hid (refword_any y w' hy)
      clear hn0 HY
      by_cases he : wordT y = s.data.toList
      · have hr : rdw s.data.toList = some y := by rw [← he]; exact rdw_word hy
        have heq : (wordT y == s.toList) = true := by rw [ByteArray.toList_eq, he]; simp
        have HR := Lib.hid hr
        clear hr hd he
        by_cases h10 : k < 8
        all_goals
          go_wp2_with (go_at_call 14; refine (HT _).out.mono ?_; rintro e w' ⟨rfl, hb⟩)
          all_goals
            go_ret2
            exact ⟨by unfold rdwEnd; rw [HR.out]; rfl, HD.out.below.trans (by obtain ⟨n, rfl⟩ := HD.out; exact hb)⟩
      · have hr : rdw s.data.toList = none := rdw_none (fun m hm e => he (by rw [hd m hm e, e]))
        have hne := bytes_ne he
        have HR := Lib.hid hr
        clear hr hd he
        by_cases h10 : k < 8
        all_goals
          go_wp2_with (go_at_call 14; refine (HT _).out.mono ?_; rintro e w' ⟨rfl, hb⟩)
          all_goals
            go_ret2
            exact ⟨by unfold rdwEnd; rw [HR.out]; rfl, HD.out.below.trans (by obtain ⟨n, rfl⟩ := HD.out; exact hb)⟩

end Go.Proofs.YtnmejabmnapmpaaDoor
