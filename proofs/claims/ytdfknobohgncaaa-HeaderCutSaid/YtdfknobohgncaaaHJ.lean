/- The contract of the law's alive; the walk of HeaderReads. -/
import Derived.Test.YtdfknobohgncaaaHH
import Derived.Test.YtdfknobohgncaaaHI
namespace Go.Proofs.Ytdfknobohgncaaa
open Go.RowKit

/-- Read of words that a call owns. -/
theorem read_words {base g cap : Nat} {w w0 : World} (H : Nat → BitVec 32) (h : w.ownsRow base 25 1 (.slice (some ⟨g, 0, none⟩) 13 cap) 13 (rowH H 13)) (a b c : BitVec 32) (v f : Bool) (t : Nat) (hv : validH H = v) (ha : headH H 0 = a) (hb : headH H 2 = b) (hc : headH H 4 = c) (hf : confH H = f) (ht : trC H 3 = t) (_hw : w0 = w) :
    Calls Try.prog 11 #[.slice (some ⟨g, 0, none⟩) 13 cap] w fun e w' => e = .returned (.agg #[.int .u32 (w32 a), .int .u32 (w32 b), .int .u32 (w32 c), .bool v, .bool f, .int .i64 (t : Nat)]) ∧ Below w.heap.size w w' := by
  obtain ⟨g', cap', e, _, hW, _⟩ := own_words h (by omega)
  injection e with e1 e2 e3
  injection e1 with e1
  injection e1 with e1
  subst e1 e3 ha hb hc hv hf ht
  exact read_any 13 g 0 cap _ H w (by decide) hW H (fun i hi => by unfold atW; rw [if_pos hi])
theorem run_field31 (a b c f t : Value) (v : Bool) (w : World) : (Instr.field 31 (.agg #[a, b, c, .bool v, f, t]) 1).run Try.prog w = .ok (.bool v) w := by
  simp [Instr.field, run_underlying Try.underlying31, go_sem, part, asAgg]
def h345 : Nat → BitVec 32 := wdF (wdC (wd0 3#32 4#32 5#32) true) true
theorem h345_facts : validH h345 = true ∧ headH h345 0 = 3#32 ∧ headH h345 2 = 4#32 ∧ headH h345 4 = 5#32 ∧ confH h345 = true ∧ trC h345 3 = 0 := by decide
def hone : Nat → BitVec 32 := fun _ => BitVec.allOnes 32
theorem hone_facts : validH hone = false ∧ headH hone 0 = 0#32 ∧ headH hone 2 = 0#32 ∧ headH hone 4 = 0#32 ∧ confH hone = false ∧ trC hone 3 = 0 := by decide
theorem read_none (w : World) : Calls Try.prog 11 #[.slice none 0 0] w fun e w' => e = .returned (.agg #[.int .u32 0, .int .u32 0, .int .u32 0, .bool false, .bool false, .int .i64 0]) ∧ Below w.heap.size w w' := by
  have := read_any 0 0 0 0 none hone w (by decide) ⟨fun h => by omega, fun k hk => by omega⟩ hone (fun i hi => by unfold atW; rw [if_neg (by omega)]; rfl)
  obtain ⟨h1, h2, h3, h4, h5, h6⟩ := hone_facts
  rw [h1, h2, h3, h4, h5, h6] at this
  exact this
set_option maxHeartbeats 1000000 in
theorem halive_any (w : World) : Calls Try.prog 13 #[] w fun e w' => e = .returned (.bool true) ∧ Below w.heap.size w w' := by
  have HW := Lib.hid (show Calls Try.prog 18 #[.int .u32 3, .int .u32 4, .int .u32 5, .bool true, .bool true] w fun e w' => ∃ g cap, e = .returned (.slice (some ⟨g, 0, none⟩) 13 cap) ∧ w'.ownsRow w.heap.size 25 1 (.slice (some ⟨g, 0, none⟩) 13 cap) 13 (rowH h345 13) ∧ Below w.heap.size w w' from words_any 3#32 4#32 5#32 true true w)
  obtain ⟨h1, h2, h3, h4, h5, h6⟩ := h345_facts
  have hfi := run_field31
  go_enter Try.func13, Try.ntmps13
  go_wp2_with fail
  refine HW.out.mono ?_
  rintro e w1 ⟨g, cap, rfl, o1, b1⟩
  have HR := Lib.hid (read_words h345 o1 _ _ _ _ _ _ h1 h2 h3 h4 h5 h6 rfl)
  have B1 := Lib.hid b1
  clear o1 b1 h1 h2 h3 h4 h5 h6
  go_wp2_with fail
  refine HR.out.mono ?_
  rintro e w2 ⟨rfl, b2⟩
  have B2 := Lib.hid ((B1.out.trans (b2.mono B1.out.size)).alloc (Nat.le_trans B1.out.size b2.size) (.cells #[.int .u32 (w32 3#32), .int .u32 (w32 4#32), .int .u32 (w32 5#32), .bool true, .bool true, .int .i64 ((0 : Nat) : Int)] 31))
  clear b2
  have e3 : w32 3#32 = 3 := by decide
  go_wp2_with (go_at_call 11; refine (read_none _).mono ?_; rintro e w3 ⟨rfl, b3⟩; have B3 := Lib.hid b3; clear b3)
  go_ret
  exact ⟨rfl, B2.out.trans (B3.out.mono B2.out.size)⟩
/-- The first blank word of a trial, looked for from behind. -/
def scN (H : Nat → BitVec 32) : Nat → Nat
  | 0 => 0
  | k + 1 => if H (12 - k) == BitVec.allOnes 32 then 12 - k else scN H k
def scB (H : Nat → BitVec 32) : Nat → Bool
  | 0 => false
  | k + 1 => if H (12 - k) == BitVec.allOnes 32 then true else scB H k
theorem sc_eq (H : Nat → BitVec 32) : scN H 3 = nxN H ∧ scB H 3 = nxB H := by
  unfold nxN nxB
  simp only [scN, scB]
  by_cases h0 : H 10 = BitVec.allOnes 32
  · simp [h0]
  · by_cases h1 : H 11 = BitVec.allOnes 32
    · simp [h1]
    · by_cases h2 : H 12 = BitVec.allOnes 32
      · simp [h2]
      · simp
        rfl
set_option maxHeartbeats 4000000 in
theorem law_reads (n b off cap : Nat) (sp : Option Addr) (l : Nat → BitVec 32) (w : World) (hn : n ≤ 9223372036854775807) (h : Ws w sp b off n l) :
    Calls Try.prog 3 #[.slice sp n cap] w fun e w' => e = .returned (.bool true) ∧ Below w.heap.size w w' := by
  by_cases h1 : 1100 < (n : Int)
  · clear h
    go_enter Try.func3, Try.ntmps3
    go_wp2
    go_ret
    exact ⟨rfl, Below.refl _ _⟩
  obtain ⟨H, hH⟩ : ∃ H, atW n l = H := ⟨_, rfl⟩
  have HW := Lib.hid (show ∀ wz, Below w.heap.size w wz → Ws wz sp b off n l from fun wz hz => h.below hz (fun h0 => (h.sp h0).2))
  have HNx := Lib.hid (next_any n b off cap sp l w hn h)
  have HRd := Lib.hid (show ∀ wz, Below w.heap.size w wz → Calls Try.prog 11 #[.slice sp n cap] wz fun e w' => e = .returned (.agg #[.int .u32 (w32 (headH H 0)), .int .u32 (w32 (headH H 2)), .int .u32 (w32 (headH H 4)), .bool (validH H), .bool (confH H), .int .i64 (trC H 3 : Nat)]) ∧ Below wz.heap.size wz w' from fun wz hz => read_any n b off cap sp l wz hn (HW.out wz hz) H (fun i _ => by rw [hH]))
  have HRf := Lib.hid (show ∀ wz, Below w.heap.size w wz → Calls Try.prog 12 #[.slice sp n cap] wz fun e w' => e = .returned (.agg #[.int .u32 (w32 (headH H 0)), .int .u32 (w32 (headH H 2)), .int .u32 (w32 (headH H 4)), .bool (validH H), .bool (confH H), .int .i64 (trC H 3 : Nat)]) ∧ Below wz.heap.size wz w' from fun wz hz => by rw [← hH]; exact refread_any n b off cap sp l wz (HW.out wz hz))
  have HAt := Lib.hid (show ∀ wz, Below w.heap.size w wz → ∀ k : Nat, Calls Try.prog 9 #[.slice sp n cap, .int .i64 k] wz fun e w' => e = .returned (.int .u32 (w32 (H k))) ∧ wz = w' from fun wz hz k => by rw [← hH]; exact refat_any n b off cap sp l wz (HW.out wz hz) k)
  rw [hH] at HNx
  have HE := Lib.hid (sc_eq H)
  obtain ⟨x, hx⟩ : ∃ x, nxN H = x := ⟨_, rfl⟩
  obtain ⟨y, hy⟩ : ∃ y, nxB H = y := ⟨_, rfl⟩
  rw [hx, hy] at HNx HE
  clear h hH hx hy
  go_enter Try.func3, Try.ntmps3
  go_wp2_with fail
  refine HNx.out.mono ?_
  rintro e w1 ⟨rfl, b1⟩
  have B1 := Lib.hid b1
  clear b1
  go_wp2
  go_loopg [5, 6, 7] 3 (fun g u v i wr => ∃ (k : Nat), k + g = 3 ∧ i = .int .i64 ((12 - k : Nat) : Int) ∧ u = .int .i64 (scN H k : Nat) ∧ v = .bool (scB H k) ∧ Aside (wr = w1))
  case atStart => exact ⟨0, by omega, rfl, rfl, rfl, rfl⟩
  case round =>
    obtain ⟨k, hkg, rfl, rfl, rfl, hw⟩ := hrel
    obtain rfl := hw.out
    clear hw
    cases gk with
    | zero =>
      obtain rfl : k = 3 := by omega
      rw [HE.out.1, HE.out.2]
      clear hkg
      have HAl := fun wz => Lib.hid (halive_any wz)
      have HAS := fun wz => Lib.hid (alike_same (headH H 0) (headH H 2) (headH H 4) (validH H) (confH H) (trC H 3 : Nat) wz)
      go_wp2_with fail
      refine (HRd.out _ B1.out).mono ?_
      rintro e w2 ⟨rfl, b2⟩
      have B2 := Lib.hid (B1.out.trans (b2.mono B1.out.size))
      clear b2
      go_wp2_with fail
      refine (HRf.out _ B2.out).mono ?_
      rintro e w3 ⟨rfl, b3⟩
      have B3 := Lib.hid (B2.out.trans (b3.mono B2.out.size))
      clear b3
      go_wp2_with fail
      refine (HAS _).out.mono ?_
      rintro e w4 ⟨rfl, b4⟩
      have B4 := Lib.hid (B3.out.trans (b4.mono B3.out.size))
      clear b4
      go_wp2_with (go_at_call 13; refine (HAl _).out.mono ?_; rintro e w5 ⟨rfl, b5⟩; have B5 := Lib.hid (B4.out.trans (b5.mono B4.out.size)); clear b5)
      go_ret
      exact ⟨rfl, B5.out⟩
    | succ g1 =>
      have hk : k < 3 := by omega
      have hk1 : (10 : Int) ≤ ((12 - k : Nat) : Int) := by omega
      have hw : IntKind.i64.wrap (((12 - k : Nat) : Int) - 1) = ((12 - (k + 1) : Nat) : Int) := by rw [IntKind.wrap_i64]; omega
      have HAk := Lib.hid (HAt.out _ B1.out (12 - k))
      have ho := ones_b (H (12 - k))
      have HSN := Lib.hid (show scN H (k + 1) = if H (12 - k) == BitVec.allOnes 32 then 12 - k else scN H k from rfl)
      have HSB := Lib.hid (show scB H (k + 1) = if H (12 - k) == BitVec.allOnes 32 then true else scB H k from rfl)
      cases hb : (H (12 - k) == BitVec.allOnes 32)
      all_goals
        rw [hb] at ho HSN HSB
        obtain ⟨z, hz⟩ : ∃ z, 12 - k = z := ⟨_, rfl⟩
        rw [hz] at hk1 hw HAk ho HSN ⊢
        have HZ := Lib.hid hz
        obtain ⟨z1, hz1⟩ : ∃ z1, 12 - (k + 1) = z1 := ⟨_, rfl⟩
        rw [hz1] at hw
        have HZ1 := Lib.hid hz1
        clear hb hz hz1
        go_wp2_with (go_at_call 9; refine HAk.out.mono ?_; rintro e w9 ⟨rfl, rfl⟩)
        go_roundg g1
        case measure => omega
        case rel => exact ⟨k + 1, by omega, by rw [HZ1.out], by rw [HSN.out]; rfl, by rw [HSB.out]; rfl, rfl⟩
end Go.Proofs.Ytdfknobohgncaaa
