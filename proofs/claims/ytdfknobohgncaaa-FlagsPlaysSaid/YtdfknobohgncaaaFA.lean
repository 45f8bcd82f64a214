/- Where flags lie; the contracts of flags' calls and of the law's alive. -/
import Derived.Test.YtdfknobohgncaaaRL
namespace Go.Proofs.Ytdfknobohgncaaa
open Go.RowKit

/-- Where flags lie. -/
def FAt (w : World) (B : Nat) (F : BitVec 32) : Prop := BoxAt w B [.int .u32 (w32 F)]
section
variable {w w' : World} {B : Nat} {F : BitVec 32}
theorem FAt.cell (h : FAt w B F) : w.cell? ⟨B, 0, none⟩ = some (.int .u32 (w32 F)) := BoxAt.cell h 0 _ rfl
theorem FAt.set_ (h : FAt w B F) (G : BitVec 32) : FAt (w.setCell ⟨B, 0, none⟩ (.int .u32 (w32 G))) B G := BoxAt.set h 0 (.int .u32 (w32 G)) (by simp)
theorem FAt.keep {T : Nat → Prop} (h : FAt w B F) (c : Ch T w w') (hT : ¬ T B) : FAt w' B F := BoxAt.keep h c hT
theorem FAt.new (h : FAt w B F) (c : Below w.heap.size w w') : FAt w' B F := BoxAt.new h c
end
theorem zero_b (x : BitVec 32) : (w32 x == 0) = (x == 0#32) := by
  show (w32 x == w32 0#32) = _
  rw [Bool.eq_iff_iff, beq_iff_eq, beq_iff_eq, w32_inj]
theorem eq_b (x y : BitVec 32) : (w32 x == w32 y) = (x == y) := by
  rw [Bool.eq_iff_iff, beq_iff_eq, beq_iff_eq, w32_inj]
theorem ne_b (x y : BitVec 32) : (w32 x != w32 y) = (x != y) := by
  unfold bne; rw [eq_b]
/-- What Set and Clear answer. -/
def ofNone (L : BitVec 32) : Int := if L = 0#32 then 280 else 0
def anyE (F L : BitVec 32) : Int := if L = 0#32 then 280 else if F &&& L = 0#32 then 270 else 0
def everyN (F L : BitVec 32) : BitVec 32 := if F &&& L = L then L else 0#32
def everyE (F L : BitVec 32) : Int := if L = 0#32 then 280 else if F &&& L = L then 0 else 270

theorem fset_any {w : World} {B : Nat} {F : BitVec 32} (h : FAt w B F) (L : BitVec 32) : Calls Try.prog 29 #[.pointer (some ⟨B, 0, none⟩), .int .u32 (w32 L)] w fun e w' =>
    e = .returned (.int .i64 (ofNone L)) ∧ FAt w' B (F ||| L) ∧ Ch (fun j => j = B) w w' := by
  have c0 := h.cell
  have f0 := BoxAt.fr h 0
  have hz := zero_b L
  have hor := or32 F L
  have H := Lib.hid (h.set_ (F ||| L))
  have H0 := Lib.hid h
  clear h
  unfold ofNone
  by_cases e : L = 0#32
  · have e1 : (L == 0#32) = true := by simpa using e
    rw [if_pos e, show F ||| L = F by rw [e]; simp]
    rw [e1] at hz
    clear e e1 H hor
    go_enter Try.func29, Try.ntmps29
    go_wp2
    go_ret
    exact ⟨rfl, H0.out, Ch.refl _ _⟩
  · have e1 : (L == 0#32) = false := by simpa using e
    rw [if_neg e]
    rw [e1] at hz
    clear e e1
    go_enter Try.func29, Try.ntmps29
    go_wp2
    go_ret
    exact ⟨rfl, H.out, (Ch.refl (fun j => j = B) _).setCell ⟨B, 0, none⟩ _ (.inl rfl)⟩
theorem fclear_any {w : World} {B : Nat} {F : BitVec 32} (h : FAt w B F) (L : BitVec 32) : Calls Try.prog 24 #[.pointer (some ⟨B, 0, none⟩), .int .u32 (w32 L)] w fun e w' =>
    e = .returned (.int .i64 (ofNone L)) ∧ FAt w' B (F &&& ~~~L) ∧ Ch (fun j => j = B) w w' := by
  have c0 := h.cell
  have f0 := BoxAt.fr h 0
  have hz := zero_b L
  have hor := andNot32 F L
  have H := Lib.hid (h.set_ (F &&& ~~~L))
  have H0 := Lib.hid h
  clear h
  unfold ofNone
  by_cases e : L = 0#32
  · have e1 : (L == 0#32) = true := by simpa using e
    rw [if_pos e, show F &&& ~~~L = F by rw [e]; apply BitVec.eq_of_getLsbD_eq; intro i hi; rw [BitVec.getLsbD_and, BitVec.getLsbD_not]; simp only [hi, decide_true, BitVec.getLsbD_zero, Bool.not_false, Bool.and_true]]
    rw [e1] at hz
    clear e e1 H hor
    go_enter Try.func24, Try.ntmps24
    go_wp2
    go_ret
    exact ⟨rfl, H0.out, Ch.refl _ _⟩
  · have e1 : (L == 0#32) = false := by simpa using e
    rw [if_neg e]
    rw [e1] at hz
    clear e e1
    go_enter Try.func24, Try.ntmps24
    go_wp2
    go_ret
    exact ⟨rfl, H.out, (Ch.refl (fun j => j = B) _).setCell ⟨B, 0, none⟩ _ (.inl rfl)⟩
theorem fany_any {w : World} {B : Nat} {F : BitVec 32} (h : FAt w B F) (L : BitVec 32) : Calls Try.prog 26 #[.pointer (some ⟨B, 0, none⟩), .int .u32 (w32 L)] w fun e w' =>
    e = .returned (.tuple #[.int .u32 (w32 (F &&& L)), .int .i64 (anyE F L)]) ∧ w = w' := by
  have c0 := h.cell
  have hz := zero_b L
  have hz2 := zero_b (F &&& L)
  have hand := and32 F L
  clear h
  unfold anyE
  by_cases e : L = 0#32
  · have e1 : (L == 0#32) = true := by simpa using e
    rw [if_pos e, show F &&& L = 0#32 by rw [e]; simp]
    rw [e1] at hz
    clear e e1 hand hz2
    go_enter Try.func26, Try.ntmps26
    go_wp2
    go_ret2
    exact ⟨rfl, rfl⟩
  · have e1 : (L == 0#32) = false := by simpa using e
    rw [if_neg e]
    rw [e1] at hz
    clear e e1
    by_cases e : F &&& L = 0#32
    · have e1 : (F &&& L == 0#32) = true := by simpa using e
      rw [if_pos e]
      rw [e1] at hz2
      have E := Lib.hid e
      clear e e1
      go_enter Try.func26, Try.ntmps26
      go_wp2
      go_ret2
      exact ⟨by rw [E.out]; rfl, rfl⟩
    · have e1 : (F &&& L == 0#32) = false := by simpa using e
      rw [if_neg e]
      rw [e1] at hz2
      clear e e1
      go_enter Try.func26, Try.ntmps26
      go_wp2
      go_ret2
      exact ⟨rfl, rfl⟩
theorem fevery_any {w : World} {B : Nat} {F : BitVec 32} (h : FAt w B F) (L : BitVec 32) : Calls Try.prog 27 #[.pointer (some ⟨B, 0, none⟩), .int .u32 (w32 L)] w fun e w' =>
    e = .returned (.tuple #[.int .u32 (w32 (everyN F L)), .int .i64 (everyE F L)]) ∧ w = w' := by
  have HA := Lib.hid (fany_any h L)
  have hn := ne_b (F &&& L) L
  clear h
  obtain ⟨X, hX⟩ : ∃ X, F &&& L = X := ⟨_, rfl⟩
  obtain ⟨E, hE⟩ : ∃ E, anyE F L = E := ⟨_, rfl⟩
  rw [hX, hE] at HA
  rw [hX] at hn
  unfold everyN everyE
  unfold anyE at hE
  rw [hX] at hE ⊢
  by_cases e : L = 0#32
  · rw [if_pos e] at hE ⊢
    subst hE
    have e2 : X = L := by rw [← hX, e]; simp
    rw [if_pos e2]
    have E := Lib.hid e
    clear e hn hX e2
    go_enter Try.func27, Try.ntmps27
    go_wp2_with (go_at_call 26; refine HA.out.mono ?_; rintro e w' ⟨rfl, rfl⟩)
    go_ret2
    exact ⟨by rw [E.out]; rfl, rfl⟩
  · rw [if_neg e] at hE ⊢
    by_cases e0 : X = 0#32
    · rw [if_pos e0] at hE
      subst hE
      have e2 : X ≠ L := by rw [e0]; exact fun h => e h.symm
      rw [if_neg e2, if_neg e2]
      clear e hn hX e2 e0
      go_enter Try.func27, Try.ntmps27
      go_wp2_with (go_at_call 26; refine HA.out.mono ?_; rintro e w' ⟨rfl, rfl⟩)
      go_ret2
      exact ⟨rfl, rfl⟩
    · rw [if_neg e0] at hE
      subst hE
      by_cases e2 : X = L
      · have e3 : (X != L) = false := by simpa using e2
        rw [e3] at hn
        rw [if_pos e2, if_pos e2]
        clear e hX e2 e0 e3
        go_enter Try.func27, Try.ntmps27
        go_wp2_with (go_at_call 26; refine HA.out.mono ?_; rintro e w' ⟨rfl, rfl⟩)
        go_ret2
        exact ⟨rfl, rfl⟩
      · have e3 : (X != L) = true := by simpa using e2
        rw [e3] at hn
        rw [if_neg e2, if_neg e2]
        clear e hX e2 e0 e3
        go_enter Try.func27, Try.ntmps27
        go_wp2_with (go_at_call 26; refine HA.out.mono ?_; rintro e w' ⟨rfl, rfl⟩)
        go_ret2
        exact ⟨rfl, rfl⟩
theorem ftake_any {w : World} {B : Nat} {F : BitVec 32} (h : FAt w B F) (L : BitVec 32) : Calls Try.prog 28 #[.pointer (some ⟨B, 0, none⟩), .int .u32 (w32 L)] w fun e w' =>
    e = .returned (.tuple #[.int .u32 (w32 (F &&& L)), .int .i64 (anyE F L)]) ∧ FAt w' B (F &&& ~~~L) ∧ Ch (fun j => j = B) w w' := by
  have HA := Lib.hid (fany_any h L)
  have c0 := h.cell
  have f0 := BoxAt.fr h 0
  have hor := andNot32 F (F &&& L)
  have e : F &&& ~~~(F &&& L) = F &&& ~~~L := by
    apply BitVec.eq_of_getLsbD_eq; intro i hi
    simp only [BitVec.getLsbD_and, BitVec.getLsbD_not, hi]
    cases F.getLsbD i <;> simp
  rw [e] at hor
  have H := Lib.hid (h.set_ (F &&& ~~~L))
  clear h e
  obtain ⟨X, hX⟩ : ∃ X, F &&& L = X := ⟨_, rfl⟩
  obtain ⟨E, hE⟩ : ∃ E, anyE F L = E := ⟨_, rfl⟩
  rw [hX, hE] at HA
  rw [hX] at hor
  rw [hX, hE]
  clear hX hE
  go_enter Try.func28, Try.ntmps28
  go_wp2_with (go_at_call 26; refine HA.out.mono ?_; rintro e w' ⟨rfl, rfl⟩)
  go_ret2
  exact ⟨rfl, H.out, (Ch.refl (fun j => j = B) _).setCell ⟨B, 0, none⟩ _ (.inl rfl)⟩
theorem fall_any {w : World} {B : Nat} {F : BitVec 32} (h : FAt w B F) : Calls Try.prog 31 #[.pointer (some ⟨B, 0, none⟩)] w fun e w' => e = .returned (.int .u32 (w32 F)) ∧ w = w' := by
  have c0 := h.cell
  clear h
  go_enter Try.func31, Try.ntmps31
  go_wp2
  go_ret
  exact ⟨rfl, rfl⟩

theorem FAt.new0 (w : World) : FAt (w.alloc (.cells #[.int .u32 0] 60)) w.heap.size 0#32 := BoxAt.mk_new w #[.int .u32 0] 60
theorem numF : ofNone 6#32 = 0 ∧ 0#32 ||| 6#32 = 6#32 ∧ 6#32 &&& 3#32 = 2#32 ∧ anyE 6#32 3#32 = 0 ∧ everyE 6#32 3#32 = 270 ∧ everyN 6#32 3#32 = 0#32 := by decide
theorem falive_any (w : World) : Calls Try.prog 32 #[] w fun e w' => e = .returned (.bool true) ∧ Below w.heap.size w w' := by
  obtain ⟨w1, hw1⟩ : ∃ w1, w1 = w.alloc (.cells #[.int .u32 0] 60) := ⟨_, rfl⟩
  have g1 : FAt w1 w.heap.size 0#32 := by rw [hw1]; exact FAt.new0 w
  have b1 : Below w.heap.size w w1 := by rw [hw1]; exact (Below.refl _ _).alloc (Nat.le_refl _) _
  have H1 := Lib.hid (And.intro g1 b1)
  obtain ⟨n1, n2, n3, n4, n5, n6⟩ := numF
  have C1 := Lib.hid (show ∀ wz, FAt wz w.heap.size 0#32 → Calls Try.prog 29 #[.pointer (some ⟨w.heap.size, 0, none⟩), .int .u32 6] wz fun e w' => e = .returned (.int .i64 0) ∧ FAt w' w.heap.size 6#32 ∧ Ch (fun j => j = w.heap.size) wz w' from fun wz hz => by
    have := fset_any hz 6#32
    rw [n1, n2] at this; exact this)
  have C2 := Lib.hid (show ∀ wz, FAt wz w.heap.size 6#32 → Calls Try.prog 26 #[.pointer (some ⟨w.heap.size, 0, none⟩), .int .u32 3] wz fun e w' => e = .returned (.tuple #[.int .u32 2, .int .i64 0]) ∧ wz = w' from fun wz hz => by
    have := fany_any hz 3#32
    rw [n3, n4] at this; exact this)
  have C3 := Lib.hid (show ∀ wz, FAt wz w.heap.size 6#32 → Calls Try.prog 27 #[.pointer (some ⟨w.heap.size, 0, none⟩), .int .u32 3] wz fun e w' => e = .returned (.tuple #[.int .u32 0, .int .i64 270]) ∧ wz = w' from fun wz hz => by
    have := fevery_any hz 3#32
    rw [n5, n6] at this; exact this)
  have C4 := Lib.hid (show ∀ wz, FAt wz w.heap.size 6#32 → Calls Try.prog 31 #[.pointer (some ⟨w.heap.size, 0, none⟩)] wz fun e w' => e = .returned (.int .u32 6) ∧ wz = w' from fun wz hz => fall_any hz)
  have HB := Lib.hid (show ∀ wa wb, Below w.heap.size w wa → Ch (fun j => j = w.heap.size) wa wb → Below w.heap.size w wb from fun wa wb h1 h2 => h1.trans (h2.below (fun j hj e => by omega) h1.size))
  clear n1 n2 n3 n4 n5 n6 g1 b1
  go_enter Try.func32, Try.ntmps32
  go_wp2_with fail
  rw [← hw1]
  clear hw1
  refine (C1.out _ H1.out.1).mono ?_
  rintro e w2 ⟨rfl, g2, b2⟩
  have H2 := Lib.hid (And.intro g2 (HB.out _ _ H1.out.2 b2))
  clear g2 b2
  go_wp2_with fail
  refine (C2.out _ H2.out.1).mono ?_
  rintro e w3 ⟨rfl, rfl⟩
  go_wp2_with fail
  refine (C3.out _ H2.out.1).mono ?_
  rintro e w3 ⟨rfl, rfl⟩
  go_wp2_with fail
  refine (C4.out _ H2.out.1).mono ?_
  rintro e w3 ⟨rfl, rfl⟩
  go_wp2
  go_ret
  exact ⟨rfl, H2.out.2⟩
end Go.Proofs.Ytdfknobohgncaaa
