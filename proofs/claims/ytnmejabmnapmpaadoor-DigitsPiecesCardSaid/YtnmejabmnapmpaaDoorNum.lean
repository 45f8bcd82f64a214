/- Plain facts on decimal digits, and the contracts of digits.Text, digits.Read and their references: each returns what plain functions on lists of bytes say. -/
import Derived.Test.YtnmejabmnapmpaaDoorFig
import Derived.Test.YtnmejabmnapmpaaDoorShelf
import Derived.Lib.ItoaNum
import Derived.OpenVars
import Derived.Laws.BytesArg
import Derived.RangeFuncRecord
namespace Go.Proofs.YtnmejabmnapmpaaDoor
open Go.RowKit Go.Lib

theorem figN_snoc (b : Nat) (n : Int) (l : List UInt8) (c : UInt8) : figN b n (l ++ [c]) = (figN b n l).bind fun v => if dv c < b then some (wrap64 (wrap64 (v * b) + dv c)) else none := by
  induction l generalizing n with
  | nil => simp [figN]
  | cons d l ih =>
    simp only [List.cons_append, figN]
    split
    · exact ih _
    · rfl
theorem digit_byte (d : Nat) (h : d < 10) : (UInt8.ofNat (48 + d)).toNat = 48 + d := by
  simp; omega
theorem dv_digit (d : Nat) (h : d < 10) : dv (UInt8.ofNat (48 + d)) = d := by
  unfold dv; rw [digit_byte d h]; split <;> omega
theorem dec_step {m : Nat} (h : ¬ m < 10) : decDigits m = decDigits (m / 10) ++ [UInt8.ofNat (48 + m % 10)] := by rw [decDigits, dif_neg h]
theorem fig_dec (m : Nat) (h : m ≤ 2147483647) : figN 10 0 (decDigits m) = some (m : Int) := by
  induction m using Nat.strongRecOn with
  | ind m ih =>
    by_cases h10 : m < 10
    · rw [decDigits_one h10]
      simp only [figN]
      rw [dv_digit m h10, if_pos h10]
      simp [wrap64]; omega
    · rw [dec_step h10, figN_snoc, ih (m / 10) (by omega) (by omega), Option.bind_some, dv_digit _ (by omega), if_pos (by omega)]
      congr 1
      have e1 : wrap64 (((m / 10 : Nat) : Int) * ((10 : Nat) : Int)) = ((m / 10 : Nat) : Int) * 10 := IntWalk.wrap64_in _ ⟨by omega, by omega⟩
      rw [e1, IntWalk.wrap64_in _ ⟨by omega, by omega⟩]
      omega

/-- The nearer bound. -/
def clamp (n : Int) : Nat := (min (max n 0) 2147483647).toNat
theorem clamp_le (n : Int) : clamp n ≤ 2147483647 := by unfold clamp; omega
theorem clamp_in {n : Int} (h : 0 ≤ n) (h' : n ≤ 2147483647) : (clamp n : Int) = n := by unfold clamp; omega

/-- The number of which a list of bytes is the text. -/
def rd (l : List UInt8) : Option Nat := match figN 10 0 l with
  | some v => if 0 ≤ v ∧ v ≤ 2147483647 ∧ decDigits v.toNat = l then some v.toNat else none
  | none => none
theorem rd_dec {m : Nat} (h : m ≤ 2147483647) : rd (decDigits m) = some m := by
  unfold rd; rw [fig_dec m h]; simp; omega
theorem rd_none {l : List UInt8} (h : ∀ m, m ≤ 2147483647 → decDigits m ≠ l) : rd l = none := by
  unfold rd
  split
  · rename_i v _
    rw [if_neg]; rintro ⟨h1, h2, h3⟩; exact h v.toNat (by omega) h3
  · rfl
def rdEnd (l : List UInt8) : Ending := .returned (.tuple #[.int .i64 ((rd l).getD 0 : Nat), .int .i64 (if (rd l).isSome then 0 else 10)])

/-- What lies below stays; the table too. -/
def Tab (w : World) : Prop := Lib.TabIs Tryd.prog w "internal/strconv.uint64pow10" .u64 Lib.pow10Tab
theorem Tab.below {w w' : World} (h : Tab w) (hb : Below w.heap.size w w') : Tab w' := by
  unfold Tab Lib.TabIs at h ⊢
  unfold World.var? at h ⊢
  have hg : Tryd.prog.globalNamed "internal/strconv.uint64pow10" = some 0 := by kernel_rfl
  rw [hg] at h ⊢
  simp only [Option.bind_some] at h ⊢
  have h0 : 0 < w.heap.size := by
    cases hh : w.heap[0]? with
    | none => rw [hh] at h; cases h
    | some o => exact (Array.getElem?_eq_some_iff.1 hh).1
  rw [hb.block 0 h0]; exact h
theorem below_grow (w : World) (k : Nat) (os : Array Obj) : Below w.heap.size w (Sort.grow (w.drewN k) os) := by
  refine ⟨rfl, rfl, rfl, ?_, fun j hj => ?_⟩
  · simp [Sort.grow]
  · simp [Sort.grow, Array.getElem?_append, hj]

theorem text_any (n : Int) (w : World) (ht : Tab w) : Calls Tryd.prog 6 #[.int .i64 n] w fun e w' => e = .returned (.string ⟨(decDigits (clamp n)).toArray⟩) ∧ Below w.heap.size w w' := by
  have hi : Calls Tryd.prog 21 #[.int .i64 (min (max n 0) 2147483647)] w fun e w' => e = .returned (.string ⟨(decDigits (clamp n)).toArray⟩) ∧ Below w.heap.size w w' := by
    refine (Tryd.strconv_Itoa _ (by omega) (by omega) w ht).mono ?_
    rintro e w' ⟨rfl, k, os, rfl⟩
    exact ⟨by rw [itoa, if_neg (by omega)]; rfl, below_grow w k os⟩
  go_enter Tryd.func6, Tryd.ntmps6
  go_wp2_with (go_at_call 21; refine hi.mono ?_; rintro e w' ⟨rfl, hb⟩)
  go_ret
  exact ⟨rfl, hb⟩

theorem bytes_ext {s : ByteArray} {l : List UInt8} (h : s.data.toList = l) : s = ⟨l.toArray⟩ := by subst h; rfl
theorem bytes_ne {s : ByteArray} {l : List UInt8} (h : l ≠ s.data.toList) : (l == s.toList) = false := by
  rw [ByteArray.toList_eq]; simp [h]

theorem read_any (s : ByteArray) (w : World) (ht : Tab w) (hs : s.size ≤ 9223372036854775807) : Calls Tryd.prog 7 #[.string s] w fun e w' => e = rdEnd s.data.toList ∧ Below w.heap.size w w' := by
  have hf := figures_any s 10 (Or.inl rfl) w hs
  unfold figEnd at hf
  unfold rdEnd
  cases hv : figN 10 0 s.data.toList with
  | none =>
    have hr : rd s.data.toList = none := by unfold rd; rw [hv]
    rw [hv] at hf
    rw [hr]
    clear hv hr
    go_enter Tryd.func7, Tryd.ntmps7
    go_wp2_with (go_at_call 22; refine hf.mono ?_; rintro e w' ⟨rfl, hd⟩)
    go_ret2
    exact ⟨rfl, hd.below⟩
  | some v =>
    rw [hv] at hf
    by_cases he : decDigits (clamp v) = s.data.toList
    · have hcv : v = (clamp v : Int) := by
        have := fig_dec (clamp v) (clamp_le v)
        rw [he, hv] at this
        exact Option.some.inj this
      have hr : rd s.data.toList = some (clamp v) := by rw [← he]; exact rd_dec (clamp_le v)
      have hs' := bytes_ext he.symm
      rw [hr]
      clear hv hr he
      obtain ⟨m, hm⟩ : ∃ m, m = clamp v := ⟨_, rfl⟩
      have htx : ∀ w', Drewn w w' → Calls Tryd.prog 6 #[.int .i64 v] w' fun e w'' => e = .returned (.string s) ∧ Below w'.heap.size w' w'' := fun w' hd => by
        have := text_any v w' (ht.below hd.below)
        rwa [← hs'] at this
      rw [← hm] at hcv ⊢
      subst hcv
      have HT := Lib.hid htx
      clear htx hs' hm
      go_enter Tryd.func7, Tryd.ntmps7
      go_wp2_with (first | (go_at_call 22; refine hf.mono ?_; rintro e w' ⟨rfl, hd⟩) | (go_at_call 6; refine (HT.out _ hd).mono ?_; rintro e w'' ⟨rfl, hb⟩))
      go_ret2
      exact ⟨rfl, hd.below.trans (by obtain ⟨n, rfl⟩ := hd; exact hb)⟩
    · have hr : rd s.data.toList = none := by
        unfold rd; rw [hv]
        simp only
        rw [if_neg]
        rintro ⟨h1, h2, h3⟩
        exact he (by rw [← h3]; congr 1; unfold clamp; omega)
      have hne := bytes_ne he
      rw [hr]
      clear hv hr he
      have htx : ∀ w', Drewn w w' → Calls Tryd.prog 6 #[.int .i64 v] w' fun e w'' => e = .returned (.string ⟨(decDigits (clamp v)).toArray⟩) ∧ Below w'.heap.size w' w'' := fun w' hd => text_any v w' (ht.below hd.below)
      have HT := Lib.hid htx
      clear htx
      go_enter Tryd.func7, Tryd.ntmps7
      go_wp2_with (first | (go_at_call 22; refine hf.mono ?_; rintro e w' ⟨rfl, hd⟩) | (go_at_call 6; refine (HT.out _ hd).mono ?_; rintro e w'' ⟨rfl, hb⟩))
      go_ret2
      exact ⟨rfl, hd.below.trans (by obtain ⟨n, rfl⟩ := hd; exact hb)⟩


theorem app_bytes (x : UInt8) (acc : List UInt8) : (⟨#[x]⟩ : ByteArray) ++ (⟨acc.toArray⟩ : ByteArray) = ⟨(x :: acc).toArray⟩ := by
  apply ByteArray.ext
  rw [ByteArray.data_append]
  simp
theorem dec_len (m : Nat) : (decDigits m).length ≤ m + 1 := by
  induction m using Nat.strongRecOn with
  | ind m ih =>
    by_cases h10 : m < 10
    · rw [decDigits_one h10]; simp
    · rw [dec_step h10]
      have := ih (m / 10) (by omega)
      simp; omega
/-- The digits of a number; none of 0. -/
def dd (r : Nat) : List UInt8 := if r = 0 then [] else decDigits r
theorem dd_step (r : Nat) (h : 0 < r) : dd r = dd (r / 10) ++ [UInt8.ofNat (48 + r % 10)] := by
  unfold dd
  rw [if_neg (by omega)]
  by_cases h10 : r < 10
  · rw [if_pos (by omega), decDigits_one h10, Nat.mod_eq_of_lt h10]; rfl
  · rw [if_neg (by omega), dec_step h10]
theorem dec_dd (r : Nat) : decDigits r = dd (r / 10) ++ [UInt8.ofNat (48 + r % 10)] := by
  by_cases h : r = 0
  · subst h; rw [decDigits_one (by omega)]; rfl
  · rw [← dd_step r (by omega)]; unfold dd; rw [if_neg h]

theorem conv_one (W : World) (x : Int) : (convert 44 9 (.slice (some ⟨W.heap.size, 0, none⟩) 1 1)).run Tryd.prog (W.alloc (.cells #[.int .u8 x] 5)) = .ok (.string ⟨#[UInt8.ofNat x.toNat]⟩) (W.alloc (.cells #[.int .u8 x] 5)) := by
  rw [run_convert_bytes_arg _ 44 5 Tryd.underlying44 Tryd.underlying5 W.heap.size 0 1 1 [x] rfl (by
    intro i hi
    have h0 : i = 0 := by omega
    subst h0
    unfold World.cell?
    rw [show (⟨W.heap.size, 0 + 0, none⟩ : Addr).block = W.heap.size from rfl, World.alloc_heap_new]
    rfl) 9 Tryd.underlying9]
  rfl

set_option maxHeartbeats 800000 in
theorem reftext_any (n : Int) (w : World) (hlo : -9223372036854775808 ≤ n) (hhi : n ≤ 9223372036854775807) : Calls Tryd.prog 9 #[.int .i64 n] w fun e w' => e = .returned (.string ⟨(decDigits (clamp n)).toArray⟩) ∧ Below w.heap.size w w' := by
  obtain ⟨c, hc⟩ : ∃ c, c = clamp n := ⟨_, rfl⟩
  have hcl := clamp_le n
  rw [← hc] at hcl ⊢
  have HC : Hid (c = clamp n) := Lib.hid hc
  have hcv := conv_one
  clear hc
  go_enter Tryd.func9, Tryd.ntmps9
  go_wp2
  all_goals
    go_loopg [0, 3] c (fun g n s wr => ∃ (r : Nat) (acc : List UInt8), r ≤ g ∧ n = .int .i64 r ∧ s = .string ⟨acc.toArray⟩ ∧ Aside (dd r ++ acc = decDigits c ∧ r ≤ 2147483647) ∧ Aside (Below w.heap.size w wr))
  case atStart =>
    have h0 := HC.out
    have hc0 : c = 0 := by unfold clamp at h0; omega
    subst hc0
    exact ⟨0, [48], by omega, rfl, rfl, ⟨(dec_dd 0).symm, by omega⟩, (Below.refl _ _).alloc (Nat.le_refl _) _⟩
  case round =>
    obtain ⟨r, acc, hr, rfl, rfl, HI, HB⟩ := hrel
    cases gk with
    | zero =>
      obtain rfl : r = 0 := by omega
      go_wp2
      go_ret
      have h1 := HI.out.1
      exact ⟨by rw [← h1]; rfl, HB.out⟩
    | succ g1 =>
      by_cases h0 : 0 < r
      · have hmx : Aside (r ≤ 2147483647) := HI.out.2
        have hr0 : (0 : Int) < (r : Int) := by omega
        have hr1 : (r : Int) ≤ 2147483647 := by have := HI.out.2; omega
        have hal : acc.length ≤ 2147483648 := by
          have h1 := congrArg List.length HI.out.1
          have h2 := dec_len c
          simp at h1; omega
        go_wp2
        go_roundg g1
        case measure => omega
        case rel =>
          refine ⟨r / 10, UInt8.ofNat (48 + r % 10) :: acc, by omega, by go_num, ?_, ⟨?_, by have := hmx.out; omega⟩, HB.out.alloc HB.out.size _⟩
          · simp [app_bytes]
          · have h1 := HI.out.1
            rw [dd_step r h0, List.append_assoc] at h1
            exact h1
      · obtain rfl : r = 0 := by omega
        go_wp2
        go_ret
        have h1 := HI.out.1
        exact ⟨by rw [← h1]; rfl, HB.out⟩
  case atStart =>
    have h0 := HC.out
    have hc0 : c = 2147483647 := by unfold clamp at h0; omega
    subst hc0
    exact ⟨214748364, [55], by omega, rfl, rfl, ⟨(dec_dd 2147483647).symm, by omega⟩, (Below.refl _ _).alloc (Nat.le_refl _) _⟩
  case round =>
    obtain ⟨r, acc, hr, rfl, rfl, HI, HB⟩ := hrel
    cases gk with
    | zero =>
      obtain rfl : r = 0 := by omega
      go_wp2
      go_ret
      have h1 := HI.out.1
      exact ⟨by rw [← h1]; rfl, HB.out⟩
    | succ g1 =>
      by_cases h0 : 0 < r
      · have hmx : Aside (r ≤ 2147483647) := HI.out.2
        have hr0 : (0 : Int) < (r : Int) := by omega
        have hr1 : (r : Int) ≤ 2147483647 := by have := HI.out.2; omega
        have hal : acc.length ≤ 2147483648 := by
          have h1 := congrArg List.length HI.out.1
          have h2 := dec_len c
          simp at h1; omega
        go_wp2
        go_roundg g1
        case measure => omega
        case rel =>
          refine ⟨r / 10, UInt8.ofNat (48 + r % 10) :: acc, by omega, by go_num, ?_, ⟨?_, by have := hmx.out; omega⟩, HB.out.alloc HB.out.size _⟩
          · simp [app_bytes]
          · have h1 := HI.out.1
            rw [dd_step r h0, List.append_assoc] at h1
            exact h1
      · obtain rfl : r = 0 := by omega
        go_wp2
        go_ret
        have h1 := HI.out.1
        exact ⟨by rw [← h1]; rfl, HB.out⟩
  case atStart =>
    have h0 := HC.out
    have hc0 : n = (c : Int) := by unfold clamp at h0; omega
    subst hc0
    refine ⟨c / 10, [UInt8.ofNat (48 + c % 10)], by omega, by go_num, ?_, ⟨(dec_dd c).symm, by omega⟩, (Below.refl _ _).alloc (Nat.le_refl _) _⟩
    have e : (48 + (c : Int) % 10).toNat = 48 + c % 10 := by omega
    rw [e]
  case round =>
    obtain ⟨r, acc, hr, rfl, rfl, HI, HB⟩ := hrel
    cases gk with
    | zero =>
      obtain rfl : r = 0 := by omega
      go_wp2
      go_ret
      have h1 := HI.out.1
      exact ⟨by rw [← h1]; rfl, HB.out⟩
    | succ g1 =>
      by_cases h0 : 0 < r
      · have hmx : Aside (r ≤ 2147483647) := HI.out.2
        have hr0 : (0 : Int) < (r : Int) := by omega
        have hr1 : (r : Int) ≤ 2147483647 := by have := HI.out.2; omega
        have hal : acc.length ≤ 2147483648 := by
          have h1 := congrArg List.length HI.out.1
          have h2 := dec_len c
          simp at h1; omega
        go_wp2
        go_roundg g1
        case measure => omega
        case rel =>
          refine ⟨r / 10, UInt8.ofNat (48 + r % 10) :: acc, by omega, by go_num, ?_, ⟨?_, by have := hmx.out; omega⟩, HB.out.alloc HB.out.size _⟩
          · simp [app_bytes]
          · have h1 := HI.out.1
            rw [dd_step r h0, List.append_assoc] at h1
            exact h1
      · obtain rfl : r = 0 := by omega
        go_wp2
        go_ret
        have h1 := HI.out.1
        exact ⟨by rw [← h1]; rfl, HB.out⟩


/-- The reference's value of a text, wrapped round. -/
def rf (n : Int) : List UInt8 → Int
  | [] => n
  | c :: r => rf (wrap64 (wrap64 (wrap64 (10 * n) + c.toNat) - 48)) r
theorem rf_snoc (n : Int) (l : List UInt8) (c : UInt8) : rf n (l ++ [c]) = wrap64 (wrap64 (wrap64 (10 * rf n l) + c.toNat) - 48) := by
  induction l generalizing n with
  | nil => rfl
  | cons d l ih => simp only [List.cons_append, rf]; exact ih _
theorem rf_dec (m : Nat) (h : m ≤ 2147483647) : rf 0 (decDigits m) = (m : Int) := by
  induction m using Nat.strongRecOn with
  | ind m ih =>
    by_cases h10 : m < 10
    · rw [decDigits_one h10]
      simp only [rf]
      rw [digit_byte m h10, IntWalk.wrap64_in (10 * 0) ⟨by omega, by omega⟩, IntWalk.wrap64_in (10 * 0 + ((48 + m : Nat) : Int)) ⟨by omega, by omega⟩, IntWalk.wrap64_in _ ⟨by omega, by omega⟩]
      omega
    · have e0 := ih (m / 10) (by omega) (by omega)
      rw [dec_step h10, rf_snoc, e0, digit_byte _ (by omega), IntWalk.wrap64_in (10 * ((m / 10 : Nat) : Int)) ⟨by omega, by omega⟩,
        IntWalk.wrap64_in (10 * ((m / 10 : Nat) : Int) + ((48 + m % 10 : Nat) : Int)) ⟨by omega, by omega⟩, IntWalk.wrap64_in _ ⟨by omega, by omega⟩]
      omega
theorem dec_len_pow (k : Nat) : ∀ m, m < 10 ^ (k + 1) → (decDigits m).length ≤ k + 1 := by
  induction k with
  | zero => intro m h; rw [decDigits_one (by omega)]; simp
  | succ k ih =>
    intro m h
    by_cases h10 : m < 10
    · rw [decDigits_one h10]; simp
    · rw [dec_step h10]
      have := ih (m / 10) (by have : 10 ^ (k + 1 + 1) = 10 ^ (k + 1) * 10 := rfl; omega)
      simp; omega
theorem rf_bds (n : Int) (l : List UInt8) (h : -9223372036854775808 ≤ n ∧ n ≤ 9223372036854775807) : -9223372036854775808 ≤ rf n l ∧ rf n l ≤ 9223372036854775807 := by
  induction l generalizing n with
  | nil => exact h
  | cons c l ih => exact ih _ (by unfold wrap64; omega)
theorem take_snoc (s : ByteArray) (k : Nat) (h : k < s.size) : s.data.toList.take (k + 1) = s.data.toList.take k ++ [s[k]] := by
  rw [List.take_succ_eq_append_getElem (by simpa using h)]; rfl

theorem refread_any (s : ByteArray) (w : World) (hs : s.size ≤ 9223372036854775807) : Calls Tryd.prog 8 #[.string s] w fun e w' => e = rdEnd s.data.toList ∧ Below w.heap.size w w' := by
  go_enter Tryd.func8, Tryd.ntmps8
  go_wp2
  go_loopg [4, 5] 10 (fun g n i wr => ∃ (k : Nat), k + g = 10 ∧ k ≤ s.size ∧ i = .int .i64 k ∧ n = .int .i64 (rf 0 (s.data.toList.take k)) ∧ Aside (w = wr))
  case atStart => exact ⟨0, by omega, by omega, rfl, rfl, rfl⟩
  case round =>
    obtain ⟨k, hkg, hks, rfl, rfl, hw⟩ := hrel
    obtain rfl := hw.out
    clear hw
    by_cases hlt : k < s.size ∧ k < 10
    · obtain ⟨hlt, h10⟩ := hlt
      have hk1 : (k : Int) < (s.size : Int) := by omega
      obtain ⟨m, hm⟩ : ∃ m, m = rf 0 (s.data.toList.take k) := ⟨_, rfl⟩
      rw [← hm]
      have HM := Lib.hid hm
      clear hm
      have hcb : (s[k].toNat : Int) ≤ 255 := by have := s[k].toNat_lt; omega
      go_wp2
      go_roundg (10 - (k + 1))
      case measure => omega
      case rel => exact ⟨k + 1, by omega, by omega, by go_num, by rw [take_snoc s k hlt, rf_snoc, ← HM.out], rfl⟩
    · have hn0 : rf 0 (s.data.toList.take k) = rf 0 (s.data.toList.take 10) := by
        by_cases h : k = 10
        · rw [h]
        · have e : k = s.size := by omega
          have hl : s.data.toList.length = s.size := by simp
          rw [List.take_of_length_le (by omega), List.take_of_length_le (by omega)]
      rw [hn0]
      have hb := rf_bds 0 (s.data.toList.take 10) ⟨by omega, by omega⟩
      have hd : ∀ m, m ≤ 2147483647 → decDigits m = s.data.toList → rf 0 (s.data.toList.take 10) = (m : Int) := by
        intro m hm e
        rw [← e, List.take_of_length_le (dec_len_pow 9 m (by omega)), rf_dec m hm]
      clear hn0
      have hv0 : rf 0 (s.data.toList.take 10) = 0 ∨ True := Or.inr trivial
      generalize rf 0 (s.data.toList.take 10) = v at *
      clear hv0
      rcases Int.lt_or_le v 0 with hneg | hpos
      · have hr : rd s.data.toList = none := rd_none (fun m hm e => by have := hd m hm e; omega)
        have HR := Lib.hid hr
        clear hr hd
        by_cases h10 : k < 10
        · have hks : ¬ k < s.size := by omega
          go_wp2
          go_ret2
          exact ⟨by unfold rdEnd; rw [HR.out]; rfl, Below.refl _ _⟩
        · go_wp2
          all_goals
            go_ret2
            exact ⟨by unfold rdEnd; rw [HR.out]; rfl, Below.refl _ _⟩
      · have HT := Lib.hid (reftext_any v w (by omega) (by omega))
        by_cases he : decDigits (clamp v) = s.data.toList
        · have hcv := hd (clamp v) (clamp_le v) he
          have hr : rd s.data.toList = some (clamp v) := by rw [← he]; exact rd_dec (clamp_le v)
          have heq : (decDigits (clamp v) == s.toList) = true := by rw [ByteArray.toList_eq, he]; simp
          have HR := Lib.hid hr
          obtain ⟨c, hc⟩ : ∃ c, c = clamp v := ⟨_, rfl⟩
          rw [← hc] at hcv
          clear hd he hr
          have HC := Lib.hid hc
          clear hc
          subst hcv
          by_cases h10 : k < 10
          all_goals
            go_wp2_with (go_at_call 9; refine HT.out.mono ?_; rintro e w' ⟨rfl, hb⟩)
            all_goals
              go_ret2
              exact ⟨by unfold rdEnd; rw [HR.out, ← HC.out]; rfl, hb⟩
        · have hr : rd s.data.toList = none := rd_none (fun m hm e => he (by
            have h1 := hd m hm e
            have h2 : clamp v = m := by unfold clamp; omega
            rw [h2, e]))
          have hne := bytes_ne he
          have HR := Lib.hid hr
          clear hr hd he
          by_cases h10 : k < 10
          all_goals
            go_wp2_with (go_at_call 9; refine HT.out.mono ?_; rintro e w' ⟨rfl, hb⟩)
            all_goals
              go_ret2
              exact ⟨by unfold rdEnd; rw [HR.out]; rfl, hb⟩

end Go.Proofs.YtnmejabmnapmpaaDoor
