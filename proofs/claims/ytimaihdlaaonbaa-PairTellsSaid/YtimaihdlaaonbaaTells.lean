/- The walk of PairTells. -/
import Derived.Test.YtimaihdlaaonbaaTells0
import Derived.Test.YtimaihdlaaonbaaHeld
namespace Go.Proofs.Ytimaihdlaaonbaa
open Go.RowKit

/-- Where a pair, three words and the first one's pair lie, in a world that has grown from another one. -/
def TwoAt (N B0 B1 B3 : Nat) (x y a b c : BitVec 32) (W0 wz : World) : Prop :=
  ((wz.cell? ⟨B0, 0, none⟩ = some (.int .u32 (w32 x)) ∧ wz.cell? ⟨B0, 1, none⟩ = some (.int .u32 (w32 y))) ∧
      (wz.cell? ⟨B1, 0, none⟩ = some (.int .u32 (w32 a)) ∧ wz.cell? ⟨B1, 1, none⟩ = some (.int .u32 (w32 b)) ∧ wz.cell? ⟨B1, 2, none⟩ = some (.int .u32 (w32 c))) ∧
      (wz.cell? ⟨B3, 0, none⟩ = some (.int .u32 (w32 a)) ∧ wz.cell? ⟨B3, 1, none⟩ = some (.int .u32 (w32 (~~~a))))) ∧ N ≤ wz.heap.size ∧ Below W0.heap.size W0 wz
theorem held_two {N B0 B1 B3 : Nat} {x y a b c : BitVec 32} {W0 wz w' : World} (hN : B0 < N ∧ B1 < N ∧ B3 < N) (h : TwoAt N B0 B1 B3 x y a b c W0 wz) (hb : Below wz.heap.size wz w') : TwoAt N B0 B1 B3 x y a b c W0 w' := by
  obtain ⟨⟨⟨h1, h2⟩, ⟨h3, h4, h5⟩, h6, h7⟩, hs, hB⟩ := h
  obtain ⟨n0, n1, n3⟩ := hN
  have k : ∀ (B o : Nat), B < N → w'.cell? ⟨B, o, none⟩ = wz.cell? ⟨B, o, none⟩ := fun B o hB => hb.cell (p := ⟨B, o, none⟩) (Nat.lt_of_lt_of_le hB hs)
  refine ⟨⟨⟨(k _ _ n0).trans h1, (k _ _ n0).trans h2⟩, ⟨(k _ _ n1).trans h3, (k _ _ n1).trans h4, (k _ _ n1).trans h5⟩, (k _ _ n3).trans h6, (k _ _ n3).trans h7⟩, Nat.le_trans hs hb.size, hB.trans (hb.mono hB.size)⟩
set_option maxHeartbeats 40000000 in
theorem law_tells (x y a b c : BitVec 32) (w : World) (r q : Bool) (hr : (w32 y == w32 (~~~x)) = r) (hq : (w32 x == w32 a) = q) :
    Calls Try.prog 3 #[.agg #[.int .u32 (w32 x), .int .u32 (w32 y)], .agg #[.int .u32 (w32 a), .int .u32 (w32 b), .int .u32 (w32 c)]] w fun e w' => e = .returned (.bool true) ∧ Below w.heap.size w w' := by
  have c8 : ∀ wz : World, Calls Try.prog 8 #[.agg #[.int .u32 (w32 x), .int .u32 (w32 y)]] wz fun e w' => e = .returned (.bool r) ∧ Below wz.heap.size wz w' := fun wz => by
    have := right_any x y wz
    rwa [show (y == ~~~x) = r by rw [← hr, Bool.eq_iff_iff, beq_iff_eq, beq_iff_eq, w32_inj]] at this
  have c9 : ∀ wz : World, Calls Try.prog 9 #[.agg #[.int .u32 (w32 x), .int .u32 (w32 y)], .int .u32 (w32 a)] wz fun e w' => e = .returned (.bool (r && q)) ∧ Below wz.heap.size wz w' := fun wz => by
    have := is_any x y a wz
    rwa [show (x == a && y == ~~~a) = (r && q) by
      rw [← hr, ← hq, Bool.eq_iff_iff, Bool.and_eq_true, Bool.and_eq_true, beq_iff_eq, beq_iff_eq, beq_iff_eq, beq_iff_eq, w32_inj, w32_inj]
      constructor
      · rintro ⟨rfl, h⟩; exact ⟨h, rfl⟩
      · rintro ⟨h, rfl⟩; exact ⟨rfl, h⟩] at this
  have c10 : ∃ F : Bool, (∀ wz : World, Calls Try.prog 10 #[.int .u32 (w32 a), .int .u32 (w32 b), .int .u32 (w32 c)] wz fun e w' => e = .returned (.bool F) ∧ wz = w') ∧
      (∀ wz : World, Calls Try.prog 11 #[.int .u32 (w32 a), .int .u32 (w32 b), .int .u32 (w32 c)] wz fun e w' => e = .returned (.bool F) ∧ wz = w') :=
    ⟨_, fun wz => fell_any a b c wz, fun wz => by rw [fell_eq]; exact reffell_any a b c wz⟩
  have c12 : ∃ F : Bool, (∀ wz : World, Calls Try.prog 12 #[.int .u32 (w32 a), .int .u32 (w32 b)] wz fun e w' => e = .returned (.bool F) ∧ wz = w') ∧
      (∀ wz : World, Calls Try.prog 13 #[.int .u32 (w32 a), .int .u32 (w32 b)] wz fun e w' => e = .returned (.bool F) ∧ wz = w') :=
    ⟨_, fun wz => rose_any a b wz, fun wz => by rw [rose_eq]; exact refrose_any a b wz⟩
  have c14 : ∃ F : Int, (∀ wz : World, Calls Try.prog 14 #[.int .u32 (w32 a), .int .u32 (w32 b), .int .u32 (w32 c)] wz fun e w' => e = .returned (.int .u32 F) ∧ wz = w') ∧
      (∀ wz : World, Calls Try.prog 15 #[.int .u32 (w32 a), .int .u32 (w32 b), .int .u32 (w32 c)] wz fun e w' => e = .returned (.int .u32 F) ∧ wz = w') :=
    ⟨_, fun wz => falls_any a b c wz, fun wz => by rw [falls_eq]; exact reffalls_any a b c wz⟩
  have c16 : ∃ F : Int, (∀ wz : World, Calls Try.prog 16 #[.int .u32 (w32 a), .int .u32 (w32 b)] wz fun e w' => e = .returned (.int .u32 F) ∧ wz = w') ∧
      (∀ wz : World, Calls Try.prog 17 #[.int .u32 (w32 a), .int .u32 (w32 b)] wz fun e w' => e = .returned (.int .u32 F) ∧ wz = w') :=
    ⟨_, fun wz => rises_any a b wz, fun wz => by rw [rises_eq]; exact refrises_any a b wz⟩
  obtain ⟨F10, h10, h11⟩ := c10
  obtain ⟨F12, h12, h13⟩ := c12
  obtain ⟨F14, h14, h15⟩ := c14
  obtain ⟨F16, h16, h17⟩ := c16
  have C8 := Lib.hid c8
  have C9 := Lib.hid c9
  have C10 := Lib.hid h10
  have C11 := Lib.hid h11
  have C12 := Lib.hid h12
  have C13 := Lib.hid h13
  have C14 := Lib.hid h14
  have C15 := Lib.hid h15
  have C16 := Lib.hid h16
  have C17 := Lib.hid h17
  clear c8 c9 h10 h11 h12 h13 h14 h15 h16 h17
  go_enter Try.func3, Try.ntmps3
  go_wp2_with fail
  refine (of_any a _).mono ?_
  rintro e w1 ⟨rfl, rfl⟩
  go_wp2
  go_quiet ((go_at_call 7; exact quietly (other_any _ _)))
  go_wp2
  have b0 : ∀ W4 : World, (((((w.alloc (.cells #[.int .u32 (w32 x), .int .u32 (w32 y)] 24)).alloc (.cells #[.int .u32 (w32 a), .int .u32 (w32 b), .int .u32 (w32 c)] 26)).alloc (.cells #[.int .u32 (w32 a), .int .u32 (w32 (~~~a))] 24)).alloc
      (.cells #[.int .u32 (w32 a), .int .u32 (w32 (~~~a))] 24)).drewN nq) = W4 → Below w.heap.size w W4 ∧ (w.heap.size + 1 + 1 + 1 < W4.heap.size) ∧
      (((W4.cell? ⟨w.heap.size, 0, none⟩ = some (.int .u32 (w32 x)) ∧ W4.cell? ⟨w.heap.size, 1, none⟩ = some (.int .u32 (w32 y))) ∧
      (W4.cell? ⟨w.heap.size + 1, 0, none⟩ = some (.int .u32 (w32 a)) ∧ W4.cell? ⟨w.heap.size + 1, 1, none⟩ = some (.int .u32 (w32 b)) ∧ W4.cell? ⟨w.heap.size + 1, 2, none⟩ = some (.int .u32 (w32 c))) ∧
      (W4.cell? ⟨w.heap.size + 1 + 1 + 1, 0, none⟩ = some (.int .u32 (w32 a)) ∧ W4.cell? ⟨w.heap.size + 1 + 1 + 1, 1, none⟩ = some (.int .u32 (w32 (~~~a)))))) := by
    rintro W4 rfl
    refine ⟨below_drewN (((((Below.refl _ _).alloc (Nat.le_refl _) _).alloc (by simp) _).alloc (by simp; omega) _).alloc (by simp; omega) _), by simp, ?_⟩
    simp [go_sem]
  generalize hW4 : World.drewN _ nq = W4
  obtain ⟨bW, sW, cW⟩ := b0 W4 hW4
  clear hW4 b0
  generalize hB3 : w.heap.size + 1 + 1 + 1 = B3 at *
  generalize hB1 : w.heap.size + 1 = B1 at *
  obtain ⟨N, hN⟩ : ∃ N, N = W4.heap.size := ⟨_, rfl⟩
  have HN := Lib.hid (show w.heap.size < N ∧ B1 < N ∧ B3 < N by omega)
  have hS0 := Lib.hid (And.intro cW (And.intro (Nat.le_of_eq hN) (Below.refl W4.heap.size W4)))
  have BW := Lib.hid bW
  have al : ∀ wz : World, Calls Try.prog 18 #[] wz fun e w' => e = .returned (.bool true) ∧ Below wz.heap.size wz w' := alive_any
  have CAl := Lib.hid al
  clear cW bW sW hN hB1 hB3 al
  cases r
  all_goals
    dsimp only [List.append_eq, List.cons_append, List.nil_append]
    refine wp_region_class (C := TwoAt N w.heap.size B1 B3 x y a b c W4) (by kernel_rfl) (by kernel_rfl) (by kernel_rfl) (held_two HN.out hS0.out (Below.refl _ _).drew) ?_
    clear hS0
    repeat
      first
        | go_big_quiet_skip
        | (go_big_quiet_want
           first
             | (apply quiet_enter
                · intro wz
                  go_simp
                  exact ⟨rfl, rfl⟩
                · intro wz hz
                  first
                    | (go_at_call 7; refine (other_any _ _).mono ?_; rintro e w' ⟨rfl, rfl⟩; exact ⟨rfl, hz⟩)
                    | (go_at_call 8; refine (C8.out _).mono ?_; rintro e w' ⟨rfl, hbn⟩; exact ⟨rfl, held_two HN.out hz hbn⟩)
                    | (go_at_call 9; refine (C9.out _).mono ?_; rintro e w' ⟨rfl, hbn⟩; exact ⟨rfl, held_two HN.out hz hbn⟩)
                    | (go_at_call 10; refine (C10.out _).mono ?_; rintro e w' ⟨rfl, rfl⟩; exact ⟨rfl, hz⟩)
                    | (go_at_call 11; refine (C11.out _).mono ?_; rintro e w' ⟨rfl, rfl⟩; exact ⟨rfl, hz⟩)
                    | (go_at_call 12; refine (C12.out _).mono ?_; rintro e w' ⟨rfl, rfl⟩; exact ⟨rfl, hz⟩)
                    | (go_at_call 13; refine (C13.out _).mono ?_; rintro e w' ⟨rfl, rfl⟩; exact ⟨rfl, hz⟩)
                    | (go_at_call 14; refine (C14.out _).mono ?_; rintro e w' ⟨rfl, rfl⟩; exact ⟨rfl, hz⟩)
                    | (go_at_call 15; refine (C15.out _).mono ?_; rintro e w' ⟨rfl, rfl⟩; exact ⟨rfl, hz⟩)
                    | (go_at_call 16; refine (C16.out _).mono ?_; rintro e w' ⟨rfl, rfl⟩; exact ⟨rfl, hz⟩)
                    | (go_at_call 17; refine (C17.out _).mono ?_; rintro e w' ⟨rfl, rfl⟩; exact ⟨rfl, hz⟩)
                    | (go_at_call 18; refine (CAl.out _).mono ?_; rintro e w' ⟨rfl, hbn⟩; exact ⟨rfl, held_two HN.out hz hbn⟩))
             | (apply quiet_run
                · intro wz hz
                  obtain ⟨⟨⟨h1, h2⟩, ⟨h3, h4, h5⟩, h6, h7⟩, _, _⟩ := hz
                  go_simp
                  try with_reducible rfl)
           simp only [Act.put, List.setIfInBounds_toArray, List.set_cons_zero, List.set_cons_succ]
           go_big_quiet_on)
    refine wpQuiet_nil ?_
    intro w5 h5
    go_wp2
    go_ret
    exact ⟨rfl, BW.out.trans (h5.2.2.mono BW.out.size)⟩
end Go.Proofs.Ytimaihdlaaonbaa
